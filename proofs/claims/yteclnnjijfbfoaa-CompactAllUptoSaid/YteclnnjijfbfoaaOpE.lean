/-
  From an argument's reading to the words of the walks, where it is a slice of versions, of ints, or a text: by the bulk; the post, where nothing that was there has changed.
-/
import Derived.Test.YteclnnjijfbfoaaClR
import Derived.ProofKit
import Derived.OpenShut
import Derived.Deep.Matrix
import Derived.Deep.Slices
import Derived.SizedLaws
import Derived.Deep.CondSized
namespace Go.Proofs.Yteclnnjijfbfoaa.Ope
open Go.ChangeShapes Go.WideShapes Go.ChangeAt Go.RowKit Go.Deep Go.Proofs.Yteclnnjijfbfoaa

theorem own : ownKnob Try.prog.godebug = none := by kernel_rfl
theorem laidOut : laidOutB Try.prog = true := by kernel_rfl
theorem toNat_of (n : Nat) (h : n < 256) : (UInt8.ofNat n).toNat = n := by
  rw [UInt8.toNat_ofNat']
  exact Nat.mod_eq_of_lt h
/-- THE POST, where nothing that was there has changed. -/
theorem post_below {H : Type} {enc : TypeId × Value → H} {P : Program} {f : Func} {s : ChangeSpec} {W W' : World} {args : Array Value} {v : Value} {ds gs : List (DataW H)} {before pa pv : List MemPlace}
    (hW : DataW.Whole enc P f.params.toList s.vars false W args.toList ds gs before) (hb : Below W.heap.size W W')
    (hres : DataW.TrodAll enc P W' W.heap.size (fun _ => false) false f.resultTypes.toList (v.resultList f.resultTypes.size) (s.fn H (ds ++ gs)).results [])
    (hargs : DataW.TrodAll enc P W' 0 (fun b => decide (b < W.heap.size)) true f.params.toList args.toList (s.fn H (ds ++ gs)).args pa)
    (hvars : DataW.TrodVars enc P W' (fun b => decide (b < W.heap.size)) s.vars (s.fn H (ds ++ gs)).vars pv) :
    s.post enc P f false true false false W args v W' :=
  ⟨ds, gs, before, [], pa, pv, hW, hres, hargs, hvars, hb.frame _, fun h => by cases h⟩

theorem cellsU8 : Try.prog.cellsOf 5 = 1 := by kernel_rfl
theorem cellsInt : Try.prog.cellsOf 3 = 1 := by kernel_rfl
def toBytes (zs : List Int) : List UInt8 := zs.map fun n => UInt8.ofNat n.toNat
theorem toBytes_length (zs : List Int) : (toBytes zs).length = zs.length := by simp [toBytes]
theorem toBytes_at (zs : List Int) (hw : ∀ n ∈ zs, (Lit.int .u8 n).wf = true) (i len : Nat) (hi : i < len) (hl : len ≤ zs.length) :
    (((toBytes (zs.take len)).getD i 0).toNat : Int) = zs.getD i 0 := by
  have hz : i < zs.length := by omega
  have hb := Go.bounds_u8 (hw zs[i] (List.getElem_mem hz))
  have e1 : (toBytes (zs.take len)).getD i 0 = UInt8.ofNat (zs[i].toNat) := by
    simp [toBytes, hi, hz]
  have e2 : zs.getD i 0 = zs[i] := by simp [hz]
  rw [e1, e2, toNat_of _ (by omega)]
  omega

/-- The cells of a row of bytes, however they were opened. -/
theorem rd_row {W : World} {a : Addr} {len cap : Nat} {zs : List Int} (hl : len ≤ cap) (hm : cap ≤ maxLen) (hz : zs.length = cap) (hlen : len ≤ 140737488355328)
    (hw : ∀ n ∈ zs, (Lit.int .u8 n).wf = true) (hc : ∀ i, i < zs.length → W.cell? (a.add i) = some (.int .u8 (zs.getD i 0))) : Rd W W.heap.size (.slice (some a) len cap) (toBytes (zs.take len)) := by
  have hlb : (toBytes (zs.take len)).length = len := by rw [toBytes_length, List.length_take]; omega
  refine ⟨some a, cap, by rw [hlb], by omega, ⟨by omega, by unfold maxLen at hm; omega, fun h => by cases h⟩, fun h0 => ?_⟩
  obtain ⟨b, off, rfl, hc2⟩ := ints_at hc (by omega)
  refine ⟨b, off, rfl, cell_lt (hc2 0 (by omega)), fun i hi => ?_⟩
  rw [hc2 i (by omega), toBytes_at zs hw i len (by omega) (by omega)]

/-! By the bulk. -/
theorem bulk_one {H : Type} (d : DataW H) : 1 ≤ Rows.uptoBulk d := by
  cases d with
  | lit l => cases l <;> simp [Rows.uptoBulk]
  | nil => simp [Rows.uptoBulk]
  | ptr d => simp [Rows.uptoBulk]
  | slice elems spare => simp [Rows.uptoBulk]
  | agg parts => simp [Rows.uptoBulk]
  | iface t d => simp [Rows.uptoBulk]
  | map entries => simp [Rows.uptoBulk]
  | held h => simp [Rows.uptoBulk]
theorem bulk_length {H : Type} (l : List (DataW H)) : l.length ≤ Rows.uptoBulkAll l := by
  induction l with
  | nil => simp [Rows.uptoBulkAll]
  | cons x r ih =>
    have := bulk_one x
    simp only [Rows.uptoBulkAll, List.length_cons]
    omega
theorem bulk_slice {H : Type} (elems spare : List (DataW H)) : elems.length + spare.length ≤ Rows.uptoBulk (.slice elems spare) := by
  have h1 := bulk_length elems
  have h2 := bulk_length spare
  simp only [Rows.uptoBulk]
  omega

theorem bulk_mem {H : Type} {l : List (DataW H)} {d : DataW H} (h : d ∈ l) : Rows.uptoBulk d ≤ Rows.uptoBulkAll l := by
  induction l with
  | nil => cases h
  | cons x r ih =>
    simp only [Rows.uptoBulkAll]
    rcases List.mem_cons.1 h with rfl | h
    · omega
    · have := ih h
      omega
theorem cellsStr : Try.prog.cellsOf 9 = 1 := by kernel_rfl
theorem cellsU64 : Try.prog.cellsOf 22 = 1 := by kernel_rfl
theorem cellsBool : Try.prog.cellsOf 4 = 1 := by kernel_rfl
theorem cellsSl1 : Try.prog.cellsOf 31 = 1 := by kernel_rfl
theorem cellsEnt : Try.prog.cellsOf 33 = 4 := by kernel_rfl

section
variable {H : Type} {enc : TypeId × Value → H} {W : World} {fuel : Nat} {c : Value} {d : DataW H} {ps : List MemPlace}
theorem bytes_field (h : DataW.trod enc Try.prog W 0 (fun _ => true) true fuel 31 [c] = some (d, ps)) (hb : Rows.uptoBulk d ≤ 1048576) :
    ∃ l, By W (fun k => k < W.heap.size) c l ∧ l.length ≤ 1048576 := by
  rcases open_ints Try.underlying31 Try.underlying5 cellsU8 h with ⟨hcs, hx⟩ | ⟨a, len, cap, zs, hcs, _, hl, hm, hz, hx, hcell, hwz⟩
  · obtain rfl : c = .slice none 0 0 := (List.cons.inj hcs).1
    exact ⟨[], By.nil _ _, by simp⟩
  · obtain rfl : c = .slice (some a) len cap := (List.cons.inj hcs).1
    injection hx with hd _
    simp only [if_true] at hz
    rw [hd] at hb
    have h1 := bulk_slice (lits (H := H) .u8 (zs.take len)) (lits .u8 (zs.drop len))
    have h2 : Rows.uptoBulk (DataW.slice (lits (H := H) .u8 (zs.take len)) (lits .u8 (zs.drop len))) ≤ 1048576 := hb
    simp only [lits, List.length_map, List.length_take, List.length_drop] at h1
    simp only [lits] at h2
    refine ⟨_, By.of_rd (rd_row hl hm hz (by omega) hwz hcell) (Nat.le_refl _) (fun _ hk => hk), ?_⟩
    rw [toBytes_length, List.length_take]
    omega
theorem ints_field (h : DataW.trod enc Try.prog W 0 (fun _ => true) true fuel 51 [c] = some (d, ps)) (hb : Rows.uptoBulk d ≤ 1048576) :
    ∃ l : List Int, Cl W (fun k => k < W.heap.size) c l.length (l.map (Value.int .i64)) ∧ (∀ n ∈ l, -9223372036854775808 ≤ n ∧ n ≤ 9223372036854775807) ∧ l.length ≤ 1048576 := by
  rcases open_ints Try.underlying51 Try.underlying3 cellsInt h with ⟨hcs, hx⟩ | ⟨a, len, cap, zs, hcs, _, hl, hm, hz, hx, hcell, hwz⟩
  · obtain rfl : c = .slice none 0 0 := (List.cons.inj hcs).1
    exact ⟨[], Cl.nil _ _, (fun n hn => by cases hn), by simp⟩
  · obtain rfl : c = .slice (some a) len cap := (List.cons.inj hcs).1
    injection hx with hd _
    simp only [if_true] at hz
    rw [hd] at hb
    have h1 := bulk_slice (lits (H := H) .i64 (zs.take len)) (lits .i64 (zs.drop len))
    have h2 : Rows.uptoBulk (DataW.slice (lits (H := H) .i64 (zs.take len)) (lits .i64 (zs.drop len))) ≤ 1048576 := hb
    simp only [lits, List.length_map, List.length_take, List.length_drop] at h1
    simp only [lits] at h2
    have hlt : (zs.take len).length = len := by rw [List.length_take]; omega
    refine ⟨zs.take len, ⟨some a, cap, by rw [hlt], by rw [hlt]; exact hl, by rw [hlt]; omega, by unfold maxLen at hm; exact hm, (fun e => by cases e), fun k x hx => ?_⟩, fun n hn => Go.bounds_i64 (hwz n (List.mem_of_mem_take hn)), by omega⟩
    have hk : k < len := by
      have := (List.getElem?_eq_some_iff.1 hx).1
      rw [List.length_map, hlt] at this
      exact this
    obtain ⟨b, off, rfl, hc2⟩ := ints_at hcell (by omega)
    have hc3 := hc2 k (by omega)
    refine ⟨b, off, rfl, cell_lt hc3, cell_lt hc3, ?_⟩
    rw [hc3, ← hx]
    have hkz : k < zs.length := by omega
    simp [hk, hkz]
set_option maxRecDepth 100000 in
theorem ent_field {cs : List Value} {b off : Nat} (hcs : W.cells? 0 ⟨b, off, none⟩ 4 = some cs) (h : DataW.trod enc Try.prog W 0 (fun _ => true) true fuel 33 cs = some (d, ps)) (hb : Rows.uptoBulk d ≤ 1048576) :
    ∃ (x : Ent) (u : Value), By W (fun k => k < W.heap.size) u x.val ∧ FitE x ∧ W.cell? ⟨b, off, none⟩ = some (.string ⟨x.key.toArray⟩) ∧ W.cell? ⟨b, off + 1, none⟩ = some (.int .u64 (x.seq : Int)) ∧ W.cell? ⟨b, off + 2, none⟩ = some (.bool x.gone) ∧ W.cell? ⟨b, off + 3, none⟩ = some u := by
  obtain ⟨_, hlen, hcell⟩ := World.cells?_some hcs
  obtain ⟨xs, k, _, hxy, _, hxl, hf⟩ := DataW.trod_struct Try.underlying33 h
  match xs, hxl, cs, hlen with
  | [y0, y1, y2, y3], _, [v0, v1, v2, v3], _ =>
    have g0 : DataW.trod enc Try.prog W 0 (fun _ => true) true k 9 (([v0, v1, v2, v3].drop 0).take (Try.prog.cellsOf 9)) = some y0 := hf 0 _ rfl
    rw [cellsStr] at g0
    have g1 : DataW.trod enc Try.prog W 0 (fun _ => true) true k 22 (([v0, v1, v2, v3].drop 1).take (Try.prog.cellsOf 22)) = some y1 := hf 1 _ rfl
    rw [cellsU64] at g1
    have g2 : DataW.trod enc Try.prog W 0 (fun _ => true) true k 4 (([v0, v1, v2, v3].drop 2).take (Try.prog.cellsOf 4)) = some y2 := hf 2 _ rfl
    rw [cellsBool] at g2
    have g3 : DataW.trod enc Try.prog W 0 (fun _ => true) true k 31 (([v0, v1, v2, v3].drop 3).take (Try.prog.cellsOf 31)) = some y3 := hf 3 _ rfl
    rw [cellsSl1] at g3
    have e0 := hcell 0 (by omega)
    have e1 := hcell 1 (by omega)
    have e2 := hcell 2 (by omega)
    have e3 := hcell 3 (by omega)
    simp only [Go.WideShapes.add_plain, List.getElem?_cons_zero, List.getElem?_cons_succ, Nat.add_zero] at e0 e1 e2 e3
    have hd : d = .agg ([y0, y1, y2, y3].map (·.1)) := (Prod.mk.inj hxy).1
    subst hd
    simp only [Rows.uptoBulk, List.map_cons, List.map_nil, Rows.uptoBulkAll] at hb
    obtain ⟨s0, h0, q0, _⟩ := DataW.trod_string Try.underlying9 g0
    obtain ⟨n1, h1, q1, w1⟩ := DataW.trod_int Try.underlying22 g1
    obtain ⟨b2, h2, q2⟩ := DataW.trod_bool Try.underlying4 g2
    obtain rfl : v0 = .string s0 := (List.cons.inj h0).1
    obtain rfl : v1 = .int .u64 n1 := (List.cons.inj h1).1
    obtain rfl : v2 = .bool b2 := (List.cons.inj h2).1
    have hn1 := Go.bounds_u64 w1
    obtain ⟨a1, rfl⟩ := Int.eq_ofNat_of_zero_le hn1.1
    have b0 : s0.data.toList.length ≤ 1048576 := by
      rw [q0] at hb
      simp only [Rows.uptoBulk] at hb
      omega
    obtain ⟨bl, r3, l3⟩ := bytes_field (d := y3.1) (ps := y3.2) g3 (by omega)
    exact ⟨⟨s0.data.toList, a1, b2, bl⟩, v3, r3, ⟨by show a1 < _; omega, by show s0.data.toList.length ≤ _; omega, by show bl.length ≤ _; omega⟩, e0, e1, e2, e3⟩
end

set_option maxRecDepth 100000 in
theorem open_ents {H : Type} {enc : TypeId × Value → H} {W : World} {v : Value} {d : DataW H} {ps : List MemPlace} (hok : ∃ a len cap, v = .slice a len cap)
    (h : DataW.Trod enc Try.prog W 0 (fun _ => true) true 26 v d ps) (hbulk : Rows.uptoBulk d ≤ 1048576) :
    ∃ es, En W (fun k => k < W.heap.size) v es ∧ (∀ x ∈ es, FitE x) ∧ es.length ≤ 1048576 := by
  obtain ⟨a0, len0, cap0, rfl⟩ := hok
  obtain ⟨fuel, hf⟩ := h
  rcases open_slice Try.underlying26 hf with ⟨hcs, hx⟩ | ⟨a, len, cap, m, n, D, Pl, hcs, _, hl, hm, hmm, hx, hel⟩
  · have hv : Value.slice a0 len0 cap0 = .slice none 0 0 := (List.cons.inj hcs).1
    rw [hv]
    exact ⟨[], En.nil _ _, (fun x hx => by cases hx), by simp⟩
  · have hv : Value.slice a0 len0 cap0 = .slice (some a) len cap := (List.cons.inj hcs).1
    rw [hv]
    injection hx with hd _
    subst hd
    simp only [if_true] at hmm
    subst hmm
    obtain ⟨b, off, spot⟩ := a
    have hlen : len ≤ 1048576 := by
      have h1 := bulk_length ((List.range len).map D)
      simp only [Rows.uptoBulk] at hbulk
      simp only [List.length_map, List.length_range] at h1
      omega
    have hone : ∀ i, i < len → ∃ (xu : Ent × Value), spot = none ∧ By W (fun k => k < W.heap.size) xu.2 xu.1.val ∧ FitE xu.1 ∧ W.cell? ⟨b, off + i * 4, none⟩ = some (.string ⟨xu.1.key.toArray⟩) ∧ W.cell? ⟨b, off + i * 4 + 1, none⟩ = some (.int .u64 (xu.1.seq : Int)) ∧ W.cell? ⟨b, off + i * 4 + 2, none⟩ = some (.bool xu.1.gone) ∧ W.cell? ⟨b, off + i * 4 + 3, none⟩ = some xu.2 := by
      intro i hi
      obtain ⟨cs', h1, h2⟩ := hel i (by omega)
      rw [cellsEnt] at h1
      have h3 : Rows.uptoBulk (D i) ≤ Rows.uptoBulkAll ((List.range len).map D) := bulk_mem (List.mem_map.2 ⟨i, List.mem_range.2 hi, rfl⟩)
      simp only [Rows.uptoBulk] at hbulk
      obtain ⟨cs0, h0, _⟩ := hel 0 (by omega)
      rw [cellsEnt] at h0
      obtain ⟨_, hl0, hc0⟩ := World.cells?_some h0
      have hspot : spot = none := by
        have e0 := hc0 0 (by omega)
        rw [List.getElem?_eq_getElem (by omega)] at e0
        simpa [Addr.add] using World.cell?_spot e0
      subst hspot
      rw [Go.WideShapes.add_plain] at h1
      obtain ⟨x, u, r⟩ := ent_field h1 h2 (by omega)
      exact ⟨(x, u), rfl, r⟩
    obtain ⟨X, hX⟩ := choose_lt (α := Ent × Value) (p := fun i xu => spot = none ∧ By W (fun k => k < W.heap.size) xu.2 xu.1.val ∧ FitE xu.1 ∧ W.cell? ⟨b, off + i * 4, none⟩ = some (.string ⟨xu.1.key.toArray⟩) ∧ W.cell? ⟨b, off + i * 4 + 1, none⟩ = some (.int .u64 (xu.1.seq : Int)) ∧ W.cell? ⟨b, off + i * 4 + 2, none⟩ = some (.bool xu.1.gone) ∧ W.cell? ⟨b, off + i * 4 + 3, none⟩ = some xu.2) hone
    have hll : ((List.range len).map fun i => (X i).1).length = len := by simp
    refine ⟨(List.range len).map fun i => (X i).1, ⟨(List.range len).map fun i => (X i).2, by simp, ⟨some ⟨b, off, spot⟩, m, by rw [hll], by rw [hll]; exact hl, by rw [hll]; omega, by unfold maxLen at hm; exact hm, (fun e => by cases e), fun j y hj => ?_⟩, fun k e u he hu => ?_⟩, fun x hx => ?_, by rw [hll]; exact hlen⟩
    · have hjl := (List.getElem?_eq_some_iff.1 hj).1
      rw [cellsE_length _ _ (by simp), hll] at hjl
      have hi : j / 4 < len := by omega
      have hxe : ((List.range len).map fun i => (X i).1)[j / 4]? = some (X (j / 4)).1 := by simp [hi]
      have hue : ((List.range len).map fun i => (X i).2)[j / 4]? = some (X (j / 4)).2 := by simp [hi]
      obtain ⟨t0, t1, t2, t3⟩ := cellsE_at _ _ _ _ _ hxe hue
      obtain ⟨hs, hB, _, e0, e1, e2, e3⟩ := hX (j / 4) hi
      subst hs
      refine ⟨b, off, rfl, cell_lt e0, cell_lt e0, ?_⟩
      have hmod : j % 4 = 0 ∨ j % 4 = 1 ∨ j % 4 = 2 ∨ j % 4 = 3 := by omega
      rcases hmod with h4 | h4 | h4 | h4
      · have ej : j = j / 4 * 4 := by omega
        rw [ej] at hj ⊢
        rw [t0] at hj
        rw [e0, hj]
      · have ej : j = j / 4 * 4 + 1 := by omega
        rw [ej] at hj ⊢
        rw [t1] at hj
        rw [← Nat.add_assoc, e1, hj]
      · have ej : j = j / 4 * 4 + 2 := by omega
        rw [ej] at hj ⊢
        rw [t2] at hj
        rw [← Nat.add_assoc, e2, hj]
      · have ej : j = j / 4 * 4 + 3 := by omega
        rw [ej] at hj ⊢
        rw [t3] at hj
        rw [← Nat.add_assoc, e3, hj]
    · have hkl : k < len := by
        have := (List.getElem?_eq_some_iff.1 he).1
        rwa [hll] at this
      have e1 : (X k).1 = e := by simpa [hkl] using he
      have e2 : (X k).2 = u := by simpa [hkl] using hu
      subst e1 e2
      exact (hX k hkl).2.1
    · obtain ⟨i, hi, rfl⟩ := List.mem_map.1 hx
      exact (hX i (List.mem_range.1 hi)).2.2.1
theorem open_intsC {H : Type} {enc : TypeId × Value → H} {W : World} {v : Value} {d : DataW H} {ps : List MemPlace} (hok : ∃ a len cap, v = .slice a len cap)
    (h : DataW.Trod enc Try.prog W 0 (fun _ => true) true 51 v d ps) (hbulk : Rows.uptoBulk d ≤ 1048576) :
    ∃ l : List Int, Cl W (fun k => k < W.heap.size) v l.length (l.map (Value.int .i64)) ∧ (∀ n ∈ l, -9223372036854775808 ≤ n ∧ n ≤ 9223372036854775807) ∧ l.length ≤ 1048576 := by
  obtain ⟨a0, len0, cap0, rfl⟩ := hok
  obtain ⟨fuel, hf⟩ := h
  exact ints_field hf hbulk
theorem open_str {H : Type} {enc : TypeId × Value → H} {W : World} {v : Value} {d : DataW H} {ps : List MemPlace} (hok : ∃ s, v = .string s)
    (h : DataW.Trod enc Try.prog W 0 (fun _ => true) true 9 v d ps) (hbulk : Rows.uptoBulk d ≤ 1048576) : ∃ l : List UInt8, v = .string ⟨l.toArray⟩ ∧ d = .lit (.string l) ∧ ps = [] ∧ l.length ≤ 1048576 := by
  obtain ⟨s, rfl⟩ := hok
  obtain ⟨fuel, hf⟩ := h
  obtain ⟨s', hs, hx, _⟩ := DataW.trod_string Try.underlying9 hf
  have h1 : Value.string s = .string s' := (List.cons.inj hs).1
  injection h1 with h1
  subst h1
  injection hx with hd hp
  subst hd
  refine ⟨s.data.toList, by simp, rfl, hp, ?_⟩
  simp only [Rows.uptoBulk] at hbulk
  omega
end Go.Proofs.Yteclnnjijfbfoaa.Ope
