/-
  From an argument's reading to the words of the walks, where it is a slice of acts on a log, or of ints: by the bulk.
-/
import Derived.Test.YtlbfgkocpjlamaaGreatDoorOpW
import Derived.Test.YtlbfgkocpjlamaaGreatDoorAcK
namespace Go.Proofs.YtlbfgkocpjlamaaGreatDoor
open Go.ChangeShapes Go.WideShapes Go.ChangeAt Go.RowKit Go.Deep

theorem bulk_mem {H : Type} {l : List (DataW H)} {d : DataW H} (h : d ∈ l) : Rows.uptoBulk d ≤ Rows.uptoBulkAll l := by
  induction l with
  | nil => cases h
  | cons x r ih =>
    simp only [Rows.uptoBulkAll]
    rcases List.mem_cons.1 h with rfl | h
    · omega
    · have := ih h
      omega
theorem cellsAct : Tryz.prog.cellsOf 35 = 4 := by kernel_rfl
theorem cellsLists : Tryz.prog.cellsOf 31 = 1 := by kernel_rfl
theorem cellsSl2 : Tryz.prog.cellsOf 23 = 1 := by kernel_rfl
theorem cellsI : Tryz.prog.cellsOf 3 = 1 := by kernel_rfl

section
variable {H : Type} {enc : TypeId × Value → H} {W : World} {fuel : Nat} {c : Value} {d : DataW H} {ps : List MemPlace}
theorem ints_field (h : DataW.trod enc Tryz.prog W 0 (fun _ => true) true fuel 23 [c] = some (d, ps)) (hb : Rows.uptoBulk d ≤ 1048576) :
    ∃ l : List Int, RdV W (fun _ => False) c (l.map (Value.int .i64)) ∧ l.length ≤ 1048576 ∧ (∀ n ∈ l, -9223372036854775808 ≤ n ∧ n ≤ 9223372036854775807) := by
  rcases open_ints Tryz.underlying23 Tryz.underlying3 cellsI h with ⟨hcs, hx⟩ | ⟨a, len, cap, zs, hcs, _, hl, hm, hz, hx, hcell, hwz⟩
  · obtain rfl : c = .slice none 0 0 := (List.cons.inj hcs).1
    exact ⟨[], RdV.nil _ _, by simp, fun n hn => by cases hn⟩
  · obtain rfl : c = .slice (some a) len cap := (List.cons.inj hcs).1
    injection hx with hd _
    simp only [if_true] at hz
    rw [hd] at hb
    have h1 := bulk_slice (lits (H := H) .i64 (zs.take len)) (lits .i64 (zs.drop len))
    have h2 : Rows.uptoBulk (DataW.slice (lits (H := H) .i64 (zs.take len)) (lits .i64 (zs.drop len))) ≤ 1048576 := hb
    simp only [lits, List.length_map, List.length_take, List.length_drop] at h1
    simp only [lits] at h2
    have hlt : (zs.take len).length = len := by rw [List.length_take]; omega
    refine ⟨zs.take len, ⟨some a, cap, by rw [List.length_map, hlt], by rw [List.length_map, hlt]; exact hl, by rw [List.length_map, hlt]; omega, by unfold maxLen at hm; exact hm, (fun e => by cases e), fun k x hx => ?_⟩, by rw [hlt]; omega, fun n hn => Go.bounds_i64 (hwz n (List.mem_of_mem_take hn))⟩
    have hk : k < len := by
      have := (List.getElem?_eq_some_iff.1 hx).1
      rw [List.length_map, hlt] at this
      exact this
    obtain ⟨b, off, rfl, hc2⟩ := ints_at hcell (by omega)
    have hc3 := hc2 k (by omega)
    refine ⟨b, off, rfl, cell_lt hc3, (fun hf => hf), ?_⟩
    rw [hc3, ← hx]
    have hkz : k < zs.length := by omega
    simp [hk, hkz]
theorem lists_field (h : DataW.trod enc Tryz.prog W 0 (fun _ => true) true fuel 31 [c] = some (d, ps)) (hbulk : Rows.uptoBulk d ≤ 1048576) :
    ∃ ls, RdW W (fun _ => False) c ls ∧ fln ls ≤ 1048576 ∧ ls.length ≤ 1048576 := by
  rcases open_int_rows Tryz.underlying31 Tryz.underlying41 Tryz.underlying5 cellsBytes cellsU8 h with ⟨hcs, hx⟩ | ⟨a, len, cap, A, L, C, Z, hcs, _, hl, hm, hx, hrow⟩
  · obtain rfl : c = .slice none 0 0 := (List.cons.inj hcs).1
    exact ⟨[], ⟨[], rfl, RdV.nil _ _, fun k u l hu => by simp at hu⟩, by simp [fln], by simp⟩
  · obtain rfl : c = .slice (some a) len cap := (List.cons.inj hcs).1
    injection hx with hd _
    subst hd
    have hb0 := bulk_slice ((List.range len).map fun r => (intRow .u8 (A r) (L r) (Z r) : DataW H)) ((List.range (cap - len)).map fun j => intRow .u8 (A (len + j)) (L (len + j)) (Z (len + j)))
    have hall : Rows.uptoBulkAll ((List.range len).map fun r => (intRow .u8 (A r) (L r) (Z r) : DataW H)) ≤ 1048576 := by
      simp only [Rows.uptoBulk] at hbulk
      omega
    simp only [List.length_map, List.length_range] at hb0
    have hone : ∀ r, r < len → (toBytes ((Z r).take (L r))).length ≤ Rows.uptoBulk (intRow .u8 (A r) (L r) (Z r) : DataW H) := by
      intro r hr
      obtain ⟨_, hLC, _, hZ, _, hnone, _⟩ := hrow r (by omega)
      rw [toBytes_length, List.length_take]
      cases hA : A r with
      | none =>
        have := hnone hA
        have := bulk_one (intRow .u8 none (L r) (Z r) : DataW H)
        omega
      | some ad =>
        have h1 := bulk_slice (lits (H := H) .u8 ((Z r).take (L r))) (lits .u8 ((Z r).drop (L r)))
        simp only [lits, List.length_map, List.length_take] at h1
        simp only [intRow, lits]
        omega
    have hfl := bulk_sum (List.range len) (fun r => toBytes ((Z r).take (L r))) (fun r => (intRow .u8 (A r) (L r) (Z r) : DataW H)) (fun r hr => hone r (List.mem_range.1 hr))
    have hlen2 : ∀ r, r < len → (toBytes ((Z r).take (L r))).length ≤ 1048576 := by
      intro r hr
      have h1 := flat_mem ((List.range len).map fun r => toBytes ((Z r).take (L r))) r (toBytes ((Z r).take (L r))) (by simp [hr])
      unfold fln at hfl
      omega
    have hlb : len ≤ 1048576 := by omega
    obtain ⟨b, off, spot⟩ := a
    refine ⟨(List.range len).map fun r => toBytes ((Z r).take (L r)), ⟨(List.range len).map fun r => .slice (A r) (L r) (C r), by simp, ⟨some ⟨b, off, spot⟩, cap, by simp, by simp; omega, by simp; omega, by unfold maxLen at hm; omega, (fun e => by cases e), fun k x hk => ?_⟩, fun k u l hu hk => ?_⟩, by omega, by simp; omega⟩
    · have hkl : k < len := by
        have := (List.getElem?_eq_some_iff.1 hk).1
        simpa using this
      have hc := (hrow k (by omega)).1
      have hspot : spot = none := by
        have h0 := (hrow 0 (by omega)).1
        simpa [Addr.add] using World.cell?_spot h0
      subst hspot
      rw [Go.WideShapes.add_plain] at hc
      refine ⟨b, off, rfl, cell_lt hc, (fun hf => hf), ?_⟩
      rw [hc, ← hk]
      simp [hkl]
    · have hkl : k < len := by
        have := (List.getElem?_eq_some_iff.1 hk).1
        simpa using this
      obtain ⟨hc, hLC, hCm, hZ, hw, hnone, hcell⟩ := hrow k (by omega)
      have hl2 : toBytes ((Z k).take (L k)) = l := by simpa [hkl] using hk
      have hu2 : Value.slice (A k) (L k) (C k) = u := by simpa [hkl] using hu
      subst hl2 hu2
      have hlk := hlen2 k hkl
      rw [toBytes_length, List.length_take] at hlk
      cases hA : A k with
      | none =>
        have hC := hnone hA
        have hL : L k = 0 := by omega
        rw [hC, hL]
        exact RdV.nil _ _
      | some ad => exact RdV.of_rd (rd_row hLC hCm hZ (by omega) hw (fun i hi => (hcell ad hA).2 i (by omega))) (Nat.le_refl _) (fun _ _ hf => hf)
set_option maxRecDepth 100000 in
theorem act_field {cs : List Value} {b off : Nat} (hcs : W.cells? 0 ⟨b, off, none⟩ 4 = some cs) (h : DataW.trod enc Tryz.prog W 0 (fun _ => true) true fuel 35 cs = some (d, ps)) (hb : Rows.uptoBulk d ≤ 1048576) :
    ∃ x lv pp pc, RdW W (fun _ => False) lv x.l ∧ FitK x ∧ W.cell? ⟨b, off, none⟩ = some (.int .i64 x.op) ∧ W.cell? ⟨b, off + 1, none⟩ = some (.int .i64 x.n) ∧ W.cell? ⟨b, off + 2, none⟩ = some lv ∧ W.cell? ⟨b, off + 3, none⟩ = some (.slice pp x.np pc) := by
  obtain ⟨_, hlen, hcell⟩ := World.cells?_some hcs
  obtain ⟨xs, k, _, hxy, _, hxl, hf⟩ := DataW.trod_struct Tryz.underlying35 h
  match xs, hxl, cs, hlen with
  | [y0, y1, y2, y3], _, [v0, v1, v2, v3], _ =>
    have g0 : DataW.trod enc Tryz.prog W 0 (fun _ => true) true k 3 (([v0, v1, v2, v3].drop 0).take (Tryz.prog.cellsOf 3)) = some y0 := hf 0 _ rfl
    rw [cellsI] at g0
    have g1 : DataW.trod enc Tryz.prog W 0 (fun _ => true) true k 3 (([v0, v1, v2, v3].drop 1).take (Tryz.prog.cellsOf 3)) = some y1 := hf 1 _ rfl
    rw [cellsI] at g1
    have g2 : DataW.trod enc Tryz.prog W 0 (fun _ => true) true k 31 (([v0, v1, v2, v3].drop 2).take (Tryz.prog.cellsOf 31)) = some y2 := hf 2 _ rfl
    rw [cellsLists] at g2
    have g3 : DataW.trod enc Tryz.prog W 0 (fun _ => true) true k 23 (([v0, v1, v2, v3].drop 3).take (Tryz.prog.cellsOf 23)) = some y3 := hf 3 _ rfl
    rw [cellsSl2] at g3
    have e0 := hcell 0 (by omega)
    have e1 := hcell 1 (by omega)
    have e2 := hcell 2 (by omega)
    have e3 := hcell 3 (by omega)
    simp only [Go.WideShapes.add_plain, List.getElem?_cons_zero, List.getElem?_cons_succ, Nat.add_zero] at e0 e1 e2 e3
    have hd : d = .agg ([y0, y1, y2, y3].map (·.1)) := (Prod.mk.inj hxy).1
    subst hd
    simp only [Rows.uptoBulk, List.map_cons, List.map_nil, Rows.uptoBulkAll] at hb
    obtain ⟨n0, h0, _, w0⟩ := DataW.trod_int Tryz.underlying3 g0
    obtain ⟨n1, h1, _, w1⟩ := DataW.trod_int Tryz.underlying3 g1
    obtain rfl : v0 = .int .i64 n0 := (List.cons.inj h0).1
    obtain rfl : v1 = .int .i64 n1 := (List.cons.inj h1).1
    obtain ⟨ll, r2, l2, m2⟩ := lists_field (d := y2.1) (ps := y2.2) g2 (by omega)
    obtain ⟨pl, r3, l3, _⟩ := ints_field (d := y3.1) (ps := y3.2) g3 (by omega)
    obtain ⟨pp, pc, rfl, _⟩ := r3
    rw [List.length_map] at e3
    exact ⟨⟨n0, n1, ll, pl.length⟩, v2, pp, pc, r2, ⟨Go.bounds_i64 w0, m2, l2, l3⟩, e0, e1, e2, e3⟩
end
set_option maxRecDepth 100000 in
theorem open_acts_w {H : Type} {enc : TypeId × Value → H} {W : World} {v : Value} {d : DataW H} {ps : List MemPlace} (hok : ∃ a len cap, v = .slice a len cap)
    (h : DataW.Trod enc Tryz.prog W 0 (fun _ => true) true 22 v d ps) (hbulk : Rows.uptoBulk d ≤ 1048576) :
    ∃ xs, RdK W (fun _ => False) v xs ∧ ((∀ x ∈ xs, FitK x) ∧ xs.length ≤ 1048576) := by
  obtain ⟨a0, len0, cap0, rfl⟩ := hok
  obtain ⟨fuel, hf⟩ := h
  rcases open_slice Tryz.underlying22 hf with ⟨hcs, hx⟩ | ⟨a, len, cap, m, n, D, Pl, hcs, _, hl, hm, hmm, hx, hel⟩
  · have hv : Value.slice a0 len0 cap0 = .slice none 0 0 := (List.cons.inj hcs).1
    rw [hv]
    exact ⟨[], ⟨none, 0, rfl, Nat.le_refl _, by simp, by omega, fun k x h => by simp at h⟩, (fun x hx => by cases hx), by simp⟩
  · have hv : Value.slice a0 len0 cap0 = .slice (some a) len cap := (List.cons.inj hcs).1
    rw [hv]
    injection hx with hd _
    subst hd
    simp only [if_true] at hmm
    subst hmm
    obtain ⟨b, off, spot⟩ := a
    have hlen : len ≤ 1048576 := by
      have h1 := bulk_length ((List.range len).map D)
      simp only [Rows.uptoBulk] at hbulk
      simp only [List.length_map, List.length_range] at h1
      omega
    have hone : ∀ i, i < len → ∃ x lv pp pc, spot = none ∧ RdW W (fun _ => False) lv x.l ∧ FitK x ∧ W.cell? ⟨b, off + i * 4, none⟩ = some (.int .i64 x.op) ∧ W.cell? ⟨b, off + i * 4 + 1, none⟩ = some (.int .i64 x.n) ∧ W.cell? ⟨b, off + i * 4 + 2, none⟩ = some lv ∧ W.cell? ⟨b, off + i * 4 + 3, none⟩ = some (.slice pp x.np pc) := by
      intro i hi
      obtain ⟨cs', h1, h2⟩ := hel i (by omega)
      rw [cellsAct] at h1
      have h3 : Rows.uptoBulk (D i) ≤ Rows.uptoBulkAll ((List.range len).map D) := bulk_mem (List.mem_map.2 ⟨i, List.mem_range.2 hi, rfl⟩)
      simp only [Rows.uptoBulk] at hbulk
      obtain ⟨cs0, h0, _⟩ := hel 0 (by omega)
      rw [cellsAct] at h0
      obtain ⟨_, hl0, hc0⟩ := World.cells?_some h0
      have hspot : spot = none := by
        have e0 := hc0 0 (by omega)
        rw [List.getElem?_eq_getElem (by omega)] at e0
        simpa [Addr.add] using World.cell?_spot e0
      subst hspot
      rw [Go.WideShapes.add_plain] at h1
      obtain ⟨x, lv, pp, pc, r⟩ := act_field h1 h2 (by omega)
      exact ⟨x, lv, pp, pc, rfl, r⟩
    obtain ⟨X, hX⟩ := choose_lt (α := WAct) (p := fun i x => ∃ lv pp pc, spot = none ∧ RdW W (fun _ => False) lv x.l ∧ FitK x ∧ W.cell? ⟨b, off + i * 4, none⟩ = some (.int .i64 x.op) ∧ W.cell? ⟨b, off + i * 4 + 1, none⟩ = some (.int .i64 x.n) ∧ W.cell? ⟨b, off + i * 4 + 2, none⟩ = some lv ∧ W.cell? ⟨b, off + i * 4 + 3, none⟩ = some (.slice pp x.np pc)) hone
    refine ⟨(List.range len).map X, ⟨some ⟨b, off, spot⟩, m, by simp, by simp; exact hl, by simp; omega, by unfold maxLen at hm; exact hm, fun k x hk => ?_⟩, fun x hx => ?_, by simp; exact hlen⟩
    · have hkl : k < len := by
        have := (List.getElem?_eq_some_iff.1 hk).1
        simpa using this
      obtain ⟨lv, pp, pc, hs, hA, _, e0, e1, e2, e3⟩ := hX k hkl
      obtain rfl : X k = x := by simpa [hkl] using hk
      rw [hs]
      exact ⟨b, off, lv, pp, pc, rfl, cell_lt e0, (fun hf => hf), hA, e0, e1, e2, e3⟩
    · obtain ⟨i, hi, rfl⟩ := List.mem_map.1 hx
      obtain ⟨_, _, _, _, _, hF, _⟩ := hX i (List.mem_range.1 hi)
      exact hF
theorem open_ints_w {H : Type} {enc : TypeId × Value → H} {W : World} {v : Value} {d : DataW H} {ps : List MemPlace} (hok : ∃ a len cap, v = .slice a len cap)
    (h : DataW.Trod enc Tryz.prog W 0 (fun _ => true) true 23 v d ps) (hbulk : Rows.uptoBulk d ≤ 1048576) :
    ∃ l : List Int, RdV W (fun _ => False) v (l.map (Value.int .i64)) ∧ l.length ≤ 1048576 ∧ (∀ n ∈ l, -9223372036854775808 ≤ n ∧ n ≤ 9223372036854775807) := by
  obtain ⟨a0, len0, cap0, rfl⟩ := hok
  obtain ⟨fuel, hf⟩ := h
  exact ints_field hf hbulk
end Go.Proofs.YtlbfgkocpjlamaaGreatDoor
