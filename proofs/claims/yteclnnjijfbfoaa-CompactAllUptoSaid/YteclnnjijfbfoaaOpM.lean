/-
  From an argument's reading to the words of the walks: a bool, one version, a slice of slices of versions.
-/
import Derived.Test.YteclnnjijfbfoaaOpE
namespace Go.Proofs.Yteclnnjijfbfoaa.Ope
open Go.ChangeShapes Go.WideShapes Go.ChangeAt Go.RowKit Go.Deep Go.Proofs.Yteclnnjijfbfoaa

theorem open_boolA {H : Type} {enc : TypeId × Value → H} {W : World} {v : Value} {d : DataW H} {ps : List MemPlace} (hok : ∃ b, v = .bool b)
    (_ : DataW.Trod enc Try.prog W 0 (fun _ => true) true 4 v d ps) : ∃ b : Bool, v = .bool b := hok

set_option maxRecDepth 100000 in
theorem open_entA {H : Type} {enc : TypeId × Value → H} {W : World} {v : Value} {d : DataW H} {ps : List MemPlace} (hok : ∃ cs, v = .agg cs ∧ cs.size = Try.prog.cellsOf 33)
    (h : DataW.Trod enc Try.prog W 0 (fun _ => true) true 33 v d ps) (hb : Rows.uptoBulk d ≤ 1048576) :
    ∃ (x : Ent) (q : Option Addr) (c : Nat), v = .agg #[.string ⟨x.key.toArray⟩, .int .u64 (x.seq : Int), .bool x.gone, .slice q x.val.length c] ∧ By W (fun k => k < W.heap.size) (.slice q x.val.length c) x.val ∧ FitE x := by
  obtain ⟨csA, rfl, _⟩ := hok
  obtain ⟨fuel, h⟩ := h
  obtain ⟨cs⟩ := csA
  have h : DataW.trod enc Try.prog W 0 (fun _ => true) true fuel 33 cs = some (d, ps) := h
  obtain ⟨xs, k, _, hxy, hlen, hxl, hf⟩ := DataW.trod_struct Try.underlying33 h
  rw [cellsEnt] at hlen
  match xs, hxl, cs, hlen with
  | [y0, y1, y2, y3], _, [v0, v1, v2, v3], _ =>
    have g0 : DataW.trod enc Try.prog W 0 (fun _ => true) true k 9 (([v0, v1, v2, v3].drop 0).take (Try.prog.cellsOf 9)) = some y0 := hf 0 _ rfl
    rw [cellsStr] at g0
    have g1 : DataW.trod enc Try.prog W 0 (fun _ => true) true k 22 (([v0, v1, v2, v3].drop 1).take (Try.prog.cellsOf 22)) = some y1 := hf 1 _ rfl
    rw [cellsU64] at g1
    have g2 : DataW.trod enc Try.prog W 0 (fun _ => true) true k 4 (([v0, v1, v2, v3].drop 2).take (Try.prog.cellsOf 4)) = some y2 := hf 2 _ rfl
    rw [cellsBool] at g2
    have g3 : DataW.trod enc Try.prog W 0 (fun _ => true) true k 31 (([v0, v1, v2, v3].drop 3).take (Try.prog.cellsOf 31)) = some y3 := hf 3 _ rfl
    rw [cellsSl1] at g3
    have hd : d = .agg ([y0, y1, y2, y3].map (·.1)) := (Prod.mk.inj hxy).1
    subst hd
    simp only [Rows.uptoBulk, List.map_cons, List.map_nil, Rows.uptoBulkAll] at hb
    obtain ⟨s0, h0, q0, _⟩ := DataW.trod_string Try.underlying9 g0
    obtain ⟨n1, h1, q1, w1⟩ := DataW.trod_int Try.underlying22 g1
    obtain ⟨b2, h2, q2⟩ := DataW.trod_bool Try.underlying4 g2
    obtain rfl : v0 = .string s0 := (List.cons.inj h0).1
    obtain rfl : v1 = .int .u64 n1 := (List.cons.inj h1).1
    obtain rfl : v2 = .bool b2 := (List.cons.inj h2).1
    have hn1 := Go.bounds_u64 w1
    obtain ⟨a1, rfl⟩ := Int.eq_ofNat_of_zero_le hn1.1
    have b0 : s0.data.toList.length ≤ 1048576 := by
      rw [q0] at hb
      simp only [Rows.uptoBulk] at hb
      omega
    obtain ⟨bl, r3, l3⟩ := bytes_field (d := y3.1) (ps := y3.2) g3 (by omega)
    obtain ⟨q, c, rfl, _⟩ := r3.form
    exact ⟨⟨s0.data.toList, a1, b2, bl⟩, q, c, rfl, r3, ⟨by show a1 < _; omega, by show s0.data.toList.length ≤ _; omega, by show bl.length ≤ _; omega⟩⟩
end Go.Proofs.Yteclnnjijfbfoaa.Ope
