/-
  From an argument's reading to the words of the walks, where it is a slice of acts: by the bulk.
-/
import Derived.Test.YtiffoafjgcjgoaaOpnN
import Derived.Test.YtiffoafjgcjgoaaActN
namespace Go.Proofs.Ytiffoafjgcjgoaa
open Go.ChangeShapes Go.WideShapes Go.ChangeAt Go.RowKit Go.Deep

theorem bulk_mem {H : Type} {l : List (DataW H)} {d : DataW H} (h : d ∈ l) : Rows.uptoBulk d ≤ Rows.uptoBulkAll l := by
  induction l with
  | nil => cases h
  | cons x r ih =>
    simp only [Rows.uptoBulkAll]
    rcases List.mem_cons.1 h with rfl | h
    · omega
    · have := ih h
      omega
theorem cellsAct : Try.prog.cellsOf 36 = 6 := by kernel_rfl
theorem cellsSl1 : Try.prog.cellsOf 34 = 1 := by kernel_rfl
theorem cellsSl2 : Try.prog.cellsOf 33 = 1 := by kernel_rfl

section
variable {H : Type} {enc : TypeId × Value → H} {W : World} {fuel : Nat} {c : Value} {d : DataW H} {ps : List MemPlace}
theorem bytes_field (h : DataW.trod enc Try.prog W 0 (fun _ => true) true fuel 34 [c] = some (d, ps)) (hb : Rows.uptoBulk d ≤ 1048576) :
    ∃ l, RdV W (fun _ => False) c (bs l) ∧ l.length ≤ 1048576 := by
  rcases open_ints Try.underlying34 Try.underlying5 cellsU8 h with ⟨hcs, hx⟩ | ⟨a, len, cap, zs, hcs, _, hl, hm, hz, hx, hcell, hwz⟩
  · obtain rfl : c = .slice none 0 0 := (List.cons.inj hcs).1
    exact ⟨[], RdV.nil _ _, by simp⟩
  · obtain rfl : c = .slice (some a) len cap := (List.cons.inj hcs).1
    injection hx with hd _
    simp only [if_true] at hz
    rw [hd] at hb
    have h1 := bulk_slice (lits (H := H) .u8 (zs.take len)) (lits .u8 (zs.drop len))
    have h2 : Rows.uptoBulk (DataW.slice (lits (H := H) .u8 (zs.take len)) (lits .u8 (zs.drop len))) ≤ 1048576 := hb
    simp only [lits, List.length_map, List.length_take, List.length_drop] at h1
    simp only [lits] at h2
    refine ⟨_, RdV.of_rd (rd_row hl hm hz (by omega) hwz hcell) (Nat.le_refl _) (fun _ _ hf => hf), ?_⟩
    rw [toBytes_length, List.length_take]
    omega
theorem ints_field (h : DataW.trod enc Try.prog W 0 (fun _ => true) true fuel 33 [c] = some (d, ps)) (hb : Rows.uptoBulk d ≤ 1048576) :
    ∃ l : List Int, RdV W (fun _ => False) c (l.map (Value.int .i64)) ∧ l.length ≤ 1048576 := by
  rcases open_ints Try.underlying33 Try.underlying3 cellsInt h with ⟨hcs, hx⟩ | ⟨a, len, cap, zs, hcs, _, hl, hm, hz, hx, hcell, hwz⟩
  · obtain rfl : c = .slice none 0 0 := (List.cons.inj hcs).1
    exact ⟨[], RdV.nil _ _, by simp⟩
  · obtain rfl : c = .slice (some a) len cap := (List.cons.inj hcs).1
    injection hx with hd _
    simp only [if_true] at hz
    rw [hd] at hb
    have h1 := bulk_slice (lits (H := H) .i64 (zs.take len)) (lits .i64 (zs.drop len))
    have h2 : Rows.uptoBulk (DataW.slice (lits (H := H) .i64 (zs.take len)) (lits .i64 (zs.drop len))) ≤ 1048576 := hb
    simp only [lits, List.length_map, List.length_take, List.length_drop] at h1
    simp only [lits] at h2
    have hlt : (zs.take len).length = len := by rw [List.length_take]; omega
    refine ⟨zs.take len, ⟨some a, cap, by rw [List.length_map, hlt], by rw [List.length_map, hlt]; exact hl, by rw [List.length_map, hlt]; omega, by unfold maxLen at hm; exact hm, (fun e => by cases e), fun k x hx => ?_⟩, by rw [hlt]; omega⟩
    have hk : k < len := by
      have := (List.getElem?_eq_some_iff.1 hx).1
      rw [List.length_map, hlt] at this
      exact this
    obtain ⟨b, off, rfl, hc2⟩ := ints_at hcell (by omega)
    have hc3 := hc2 k (by omega)
    refine ⟨b, off, rfl, cell_lt hc3, (fun hf => hf), ?_⟩
    rw [hc3, ← hx]
    have hkz : k < zs.length := by omega
    simp [hk, hkz]
set_option maxRecDepth 100000 in
theorem act_field {cs : List Value} {b off : Nat} (hcs : W.cells? 0 ⟨b, off, none⟩ 6 = some cs) (h : DataW.trod enc Try.prog W 0 (fun _ => true) true fuel 36 cs = some (d, ps)) (hb : Rows.uptoBulk d ≤ 1048576) :
    ∃ x tv bv, ActC W (fun _ => False) tv bv x ∧ FitA x ∧ W.cell? ⟨b, off, none⟩ = some (.int .i64 x.op) ∧ W.cell? ⟨b, off + 1, none⟩ = some (.int .i64 x.src) ∧ W.cell? ⟨b, off + 2, none⟩ = some (.int .i64 x.dst) ∧
      W.cell? ⟨b, off + 3, none⟩ = some (.int .i64 x.pick) ∧ W.cell? ⟨b, off + 4, none⟩ = some tv ∧ W.cell? ⟨b, off + 5, none⟩ = some bv := by
  obtain ⟨_, hlen, hcell⟩ := World.cells?_some hcs
  obtain ⟨xs, k, _, hxy, _, hxl, hf⟩ := DataW.trod_struct Try.underlying36 h
  match xs, hxl, cs, hlen with
  | [y0, y1, y2, y3, y4, y5], _, [v0, v1, v2, v3, v4, v5], _ =>
    have g0 : DataW.trod enc Try.prog W 0 (fun _ => true) true k 3 (([v0, v1, v2, v3, v4, v5].drop 0).take (Try.prog.cellsOf 3)) = some y0 := hf 0 _ rfl
    rw [cellsInt] at g0
    have g1 : DataW.trod enc Try.prog W 0 (fun _ => true) true k 3 (([v0, v1, v2, v3, v4, v5].drop 1).take (Try.prog.cellsOf 3)) = some y1 := hf 1 _ rfl
    rw [cellsInt] at g1
    have g2 : DataW.trod enc Try.prog W 0 (fun _ => true) true k 3 (([v0, v1, v2, v3, v4, v5].drop 2).take (Try.prog.cellsOf 3)) = some y2 := hf 2 _ rfl
    rw [cellsInt] at g2
    have g3 : DataW.trod enc Try.prog W 0 (fun _ => true) true k 3 (([v0, v1, v2, v3, v4, v5].drop 3).take (Try.prog.cellsOf 3)) = some y3 := hf 3 _ rfl
    rw [cellsInt] at g3
    have g4 : DataW.trod enc Try.prog W 0 (fun _ => true) true k 33 (([v0, v1, v2, v3, v4, v5].drop 4).take (Try.prog.cellsOf 33)) = some y4 := hf 4 _ rfl
    rw [cellsSl2] at g4
    have g5 : DataW.trod enc Try.prog W 0 (fun _ => true) true k 34 (([v0, v1, v2, v3, v4, v5].drop 5).take (Try.prog.cellsOf 34)) = some y5 := hf 5 _ rfl
    rw [cellsSl1] at g5
    have e0 := hcell 0 (by omega)
    have e1 := hcell 1 (by omega)
    have e2 := hcell 2 (by omega)
    have e3 := hcell 3 (by omega)
    have e4 := hcell 4 (by omega)
    have e5 := hcell 5 (by omega)
    simp only [Go.WideShapes.add_plain, List.getElem?_cons_zero, List.getElem?_cons_succ, Nat.add_zero] at e0 e1 e2 e3 e4 e5
    have hd : d = .agg ([y0, y1, y2, y3, y4, y5].map (·.1)) := (Prod.mk.inj hxy).1
    subst hd
    simp only [Rows.uptoBulk, List.map_cons, List.map_nil, Rows.uptoBulkAll] at hb
    obtain ⟨n0, h0, _, w0⟩ := DataW.trod_int Try.underlying3 g0
    obtain ⟨n1, h1, _, w1⟩ := DataW.trod_int Try.underlying3 g1
    obtain ⟨n2, h2, _, w2⟩ := DataW.trod_int Try.underlying3 g2
    obtain ⟨n3, h3, _, w3⟩ := DataW.trod_int Try.underlying3 g3
    obtain rfl : v0 = .int .i64 n0 := (List.cons.inj h0).1
    obtain rfl : v1 = .int .i64 n1 := (List.cons.inj h1).1
    obtain rfl : v2 = .int .i64 n2 := (List.cons.inj h2).1
    obtain rfl : v3 = .int .i64 n3 := (List.cons.inj h3).1
    obtain ⟨tl, r4, l4⟩ := ints_field (d := y4.1) (ps := y4.2) g4 (by omega)
    obtain ⟨bl, r5, l5⟩ := bytes_field (d := y5.1) (ps := y5.2) g5 (by omega)
    exact ⟨⟨n0, n1, n2, n3, tl, bl⟩, v4, v5, ⟨r4, r5⟩, ⟨Go.bounds_i64 w0, Go.bounds_i64 w1, Go.bounds_i64 w2, Go.bounds_i64 w3, l4, l5⟩, e0, e1, e2, e3, e4, e5⟩
end
set_option maxRecDepth 100000 in
theorem open_acts {H : Type} {enc : TypeId × Value → H} {W : World} {v : Value} {d : DataW H} {ps : List MemPlace} (hok : ∃ a len cap, v = .slice a len cap)
    (h : DataW.Trod enc Try.prog W 0 (fun _ => true) true 22 v d ps) (hbulk : Rows.uptoBulk d ≤ 1048576) :
    ∃ xs, RdA W (fun _ => False) v xs ∧ ((∀ x ∈ xs, FitA x) ∧ xs.length ≤ 1048576) := by
  obtain ⟨a0, len0, cap0, rfl⟩ := hok
  obtain ⟨fuel, hf⟩ := h
  rcases open_slice Try.underlying22 hf with ⟨hcs, hx⟩ | ⟨a, len, cap, m, n, D, Pl, hcs, _, hl, hm, hmm, hx, hel⟩
  · have hv : Value.slice a0 len0 cap0 = .slice none 0 0 := (List.cons.inj hcs).1
    rw [hv]
    exact ⟨[], ⟨none, 0, rfl, Nat.le_refl _, by simp, by omega, fun k x h => by simp at h⟩, (fun x hx => by cases hx), by simp⟩
  · have hv : Value.slice a0 len0 cap0 = .slice (some a) len cap := (List.cons.inj hcs).1
    rw [hv]
    injection hx with hd _
    subst hd
    simp only [if_true] at hmm
    subst hmm
    obtain ⟨b, off, spot⟩ := a
    have hlen : len ≤ 1048576 := by
      have h1 := bulk_length ((List.range len).map D)
      simp only [Rows.uptoBulk] at hbulk
      simp only [List.length_map, List.length_range] at h1
      omega
    have hone : ∀ i, i < len → ∃ x tv bv, spot = none ∧ ActC W (fun _ => False) tv bv x ∧ FitA x ∧ W.cell? ⟨b, off + i * 6, none⟩ = some (.int .i64 x.op) ∧ W.cell? ⟨b, off + i * 6 + 1, none⟩ = some (.int .i64 x.src) ∧ W.cell? ⟨b, off + i * 6 + 2, none⟩ = some (.int .i64 x.dst) ∧
        W.cell? ⟨b, off + i * 6 + 3, none⟩ = some (.int .i64 x.pick) ∧ W.cell? ⟨b, off + i * 6 + 4, none⟩ = some tv ∧ W.cell? ⟨b, off + i * 6 + 5, none⟩ = some bv := by
      intro i hi
      obtain ⟨cs', h1, h2⟩ := hel i (by omega)
      rw [cellsAct] at h1
      have h3 : Rows.uptoBulk (D i) ≤ Rows.uptoBulkAll ((List.range len).map D) := bulk_mem (List.mem_map.2 ⟨i, List.mem_range.2 hi, rfl⟩)
      simp only [Rows.uptoBulk] at hbulk
      obtain ⟨cs0, h0, _⟩ := hel 0 (by omega)
      rw [cellsAct] at h0
      obtain ⟨_, hl0, hc0⟩ := World.cells?_some h0
      have hspot : spot = none := by
        have e0 := hc0 0 (by omega)
        rw [List.getElem?_eq_getElem (by omega)] at e0
        simpa [Addr.add] using World.cell?_spot e0
      subst hspot
      rw [Go.WideShapes.add_plain] at h1
      obtain ⟨x, tv, bv, r⟩ := act_field h1 h2 (by omega)
      exact ⟨x, tv, bv, rfl, r⟩
    obtain ⟨X, hX⟩ := choose_lt (α := PAct) (p := fun i x => ∃ tv bv, spot = none ∧ ActC W (fun _ => False) tv bv x ∧ FitA x ∧ W.cell? ⟨b, off + i * 6, none⟩ = some (.int .i64 x.op) ∧ W.cell? ⟨b, off + i * 6 + 1, none⟩ = some (.int .i64 x.src) ∧ W.cell? ⟨b, off + i * 6 + 2, none⟩ = some (.int .i64 x.dst) ∧
        W.cell? ⟨b, off + i * 6 + 3, none⟩ = some (.int .i64 x.pick) ∧ W.cell? ⟨b, off + i * 6 + 4, none⟩ = some tv ∧ W.cell? ⟨b, off + i * 6 + 5, none⟩ = some bv) hone
    refine ⟨(List.range len).map X, ⟨some ⟨b, off, spot⟩, m, by simp, by simp; exact hl, by simp; omega, by unfold maxLen at hm; exact hm, fun k x hk => ?_⟩, fun x hx => ?_, by simp; exact hlen⟩
    · have hkl : k < len := by
        have := (List.getElem?_eq_some_iff.1 hk).1
        simpa using this
      obtain ⟨tv, bv, hs, hA, _, e0, e1, e2, e3, e4, e5⟩ := hX k hkl
      obtain rfl : X k = x := by simpa [hkl] using hk
      rw [hs]
      exact ⟨b, off, tv, bv, rfl, cell_lt e0, (fun hf => hf), hA, e0, e1, e2, e3, e4, e5⟩
    · obtain ⟨i, hi, rfl⟩ := List.mem_map.1 hx
      obtain ⟨_, _, _, _, hF, _⟩ := hX i (List.mem_range.1 hi)
      exact hF
end Go.Proofs.Ytiffoafjgcjgoaa
