/-
  From an argument's reading to the words of the walks: a slice of bytes, a slice of slices of bytes; how many they are, by the bulk or by the reach.
-/
import Derived.Test.YtlbfgkocpjlamaaGreatDoorLdW
import Derived.Test.YtlbfgkocpjlamaaGreatDoorWlH
import Derived.Deep.Matrix
import Derived.SizedLaws
namespace Go.Proofs.YtlbfgkocpjlamaaGreatDoor
open Go.ChangeShapes Go.WideShapes Go.ChangeAt Go.RowKit Go.Deep

theorem cellsU8 : Tryz.prog.cellsOf 5 = 1 := by kernel_rfl
theorem cellsBytes : Tryz.prog.cellsOf 41 = 1 := by kernel_rfl
theorem bytesU8 : Tryz.prog.bytesOf 5 = 1 := by kernel_rfl
theorem reach_eq : reachBytes = 140737488351232 := rfl

def toBytes (zs : List Int) : List UInt8 := zs.map fun n => UInt8.ofNat n.toNat
theorem toBytes_length (zs : List Int) : (toBytes zs).length = zs.length := by simp [toBytes]
theorem toBytes_at (zs : List Int) (hw : ∀ n ∈ zs, (Lit.int .u8 n).wf = true) (i len : Nat) (hi : i < len) (hl : len ≤ zs.length) :
    (((toBytes (zs.take len)).getD i 0).toNat : Int) = zs.getD i 0 := by
  have hz : i < zs.length := by omega
  have hb := Go.bounds_u8 (hw zs[i] (List.getElem_mem hz))
  have e1 : (toBytes (zs.take len)).getD i 0 = UInt8.ofNat (zs[i].toNat) := by
    simp [toBytes, hi, hz]
  have e2 : zs.getD i 0 = zs[i] := by simp [hz]
  rw [e1, e2, toNat_ofC _ (by omega)]
  omega

/-- The cells of a row of bytes, however they were opened. -/
theorem rd_row {W : World} {a : Addr} {len cap : Nat} {zs : List Int} (hl : len ≤ cap) (hm : cap ≤ maxLen) (hz : zs.length = cap) (hlen : len ≤ 140737488355328)
    (hw : ∀ n ∈ zs, (Lit.int .u8 n).wf = true) (hc : ∀ i, i < zs.length → W.cell? (a.add i) = some (.int .u8 (zs.getD i 0))) : Rd W W.heap.size (.slice (some a) len cap) (toBytes (zs.take len)) := by
  have hlb : (toBytes (zs.take len)).length = len := by rw [toBytes_length, List.length_take]; omega
  refine ⟨some a, cap, by rw [hlb], by omega, ⟨by omega, by unfold maxLen at hm; omega, fun h => by cases h⟩, fun h0 => ?_⟩
  obtain ⟨b, off, rfl, hc2⟩ := ints_at hc (by omega)
  refine ⟨b, off, rfl, cell_lt (hc2 0 (by omega)), fun i hi => ?_⟩
  rw [hc2 i (by omega), toBytes_at zs hw i len (by omega) (by omega)]

theorem open_bytes {H : Type} {enc : TypeId × Value → H} {W : World} {v : Value} {d : DataW H} {ps : List MemPlace} (hok : ∃ a len cap, v = .slice a len cap)
    (h : DataW.Trod enc Tryz.prog W 0 (fun _ => true) true 41 v d ps) (hlen : ∀ elems spare, d = .slice elems spare → elems.length + spare.length ≤ 140737488355328) :
    ∃ l, Rd W W.heap.size v l ∧ ((d = .nil ∧ l = []) ∨ ∃ elems spare, d = .slice elems spare ∧ l.length = elems.length) := by
  obtain ⟨a0, len0, cap0, rfl⟩ := hok
  obtain ⟨fuel, hf⟩ := h
  rcases open_ints Tryz.underlying41 Tryz.underlying5 cellsU8 hf with ⟨hcs, hx⟩ | ⟨a, len, cap, zs, hcs, _, hl, hm, hz, hx, hcell, hwz⟩
  · have hv : Value.slice a0 len0 cap0 = .slice none 0 0 := (List.cons.inj hcs).1
    rw [hv]
    injection hx with hd _
    exact ⟨[], Rd.none_ _ _, .inl ⟨hd, rfl⟩⟩
  · have hv : Value.slice a0 len0 cap0 = .slice (some a) len cap := (List.cons.inj hcs).1
    rw [hv]
    injection hx with hd _
    simp only [if_true] at hz
    have hb := hlen _ _ hd
    simp only [lits, List.length_map, List.length_take, List.length_drop] at hb
    refine ⟨_, rd_row hl hm hz (by omega) hwz hcell, .inr ⟨_, _, hd, ?_⟩⟩
    rw [toBytes_length]
    simp [lits]

/-! By the bulk. -/
theorem bulk_one {H : Type} (d : DataW H) : 1 ≤ Rows.uptoBulk d := by
  cases d with
  | lit l => cases l <;> simp [Rows.uptoBulk]
  | nil => simp [Rows.uptoBulk]
  | ptr d => simp [Rows.uptoBulk]
  | slice elems spare => simp [Rows.uptoBulk]
  | agg parts => simp [Rows.uptoBulk]
  | iface t d => simp [Rows.uptoBulk]
  | map entries => simp [Rows.uptoBulk]
  | held h => simp [Rows.uptoBulk]
theorem bulk_length {H : Type} (l : List (DataW H)) : l.length ≤ Rows.uptoBulkAll l := by
  induction l with
  | nil => simp [Rows.uptoBulkAll]
  | cons x r ih =>
    have := bulk_one x
    simp only [Rows.uptoBulkAll, List.length_cons]
    omega
theorem bulk_sum {H α : Type} (rs : List α) (f : α → List UInt8) (g : α → DataW H) (h : ∀ r ∈ rs, (f r).length ≤ Rows.uptoBulk (g r)) : fln (rs.map f) ≤ Rows.uptoBulkAll (rs.map g) := by
  induction rs with
  | nil => simp [fln, Rows.uptoBulkAll]
  | cons r rs ih =>
    have h1 := h r (by simp)
    have h2 := ih (fun x hx => h x (by simp [hx]))
    simp only [fln, List.map_cons, List.flatten_cons, List.length_append, Rows.uptoBulkAll] at h2 ⊢
    omega
theorem bulk_slice {H : Type} (elems spare : List (DataW H)) : elems.length + spare.length ≤ Rows.uptoBulk (.slice elems spare) := by
  have h1 := bulk_length elems
  have h2 := bulk_length spare
  simp only [Rows.uptoBulk]
  omega

theorem open_lists {H : Type} {enc : TypeId × Value → H} {W : World} {v : Value} {d : DataW H} {ps : List MemPlace} (hok : ∃ a len cap, v = .slice a len cap)
    (h : DataW.Trod enc Tryz.prog W 0 (fun _ => true) true 31 v d ps) (hbulk : Rows.uptoBulk d ≤ 1048576) :
    ∃ ls, RdL W W.heap.size v ls ∧ fln ls ≤ 1048576 ∧ ls.length ≤ 1048576 := by
  obtain ⟨a0, len0, cap0, rfl⟩ := hok
  obtain ⟨fuel, hf⟩ := h
  rcases open_int_rows Tryz.underlying31 Tryz.underlying41 Tryz.underlying5 cellsBytes cellsU8 hf with ⟨hcs, hx⟩ | ⟨a, len, cap, A, L, C, Z, hcs, _, hl, hm, hx, hrow⟩
  · have hv : Value.slice a0 len0 cap0 = .slice none 0 0 := (List.cons.inj hcs).1
    rw [hv]
    exact ⟨[], RdL.none_ _ _, by simp [fln], by simp⟩
  · have hv : Value.slice a0 len0 cap0 = .slice (some a) len cap := (List.cons.inj hcs).1
    rw [hv]
    injection hx with hd _
    subst hd
    have hb0 := bulk_slice ((List.range len).map fun r => (intRow .u8 (A r) (L r) (Z r) : DataW H)) ((List.range (cap - len)).map fun j => intRow .u8 (A (len + j)) (L (len + j)) (Z (len + j)))
    have hall : Rows.uptoBulkAll ((List.range len).map fun r => (intRow .u8 (A r) (L r) (Z r) : DataW H)) ≤ 1048576 := by
      simp only [Rows.uptoBulk] at hbulk
      omega
    simp only [List.length_map, List.length_range] at hb0
    have hone : ∀ r, r < len → (toBytes ((Z r).take (L r))).length ≤ Rows.uptoBulk (intRow .u8 (A r) (L r) (Z r) : DataW H) := by
      intro r hr
      obtain ⟨_, hLC, _, hZ, _, hnone, _⟩ := hrow r (by omega)
      rw [toBytes_length, List.length_take]
      cases hA : A r with
      | none =>
        have := hnone hA
        have := bulk_one (intRow .u8 none (L r) (Z r) : DataW H)
        omega
      | some ad =>
        have h1 := bulk_slice (lits (H := H) .u8 ((Z r).take (L r))) (lits .u8 ((Z r).drop (L r)))
        simp only [lits, List.length_map, List.length_take] at h1
        simp only [intRow, lits]
        omega
    have hfl := bulk_sum (List.range len) (fun r => toBytes ((Z r).take (L r))) (fun r => (intRow .u8 (A r) (L r) (Z r) : DataW H)) (fun r hr => hone r (List.mem_range.1 hr))
    have hlen2 : ∀ r, r < len → (toBytes ((Z r).take (L r))).length ≤ 1048576 := by
      intro r hr
      have h1 := flat_mem ((List.range len).map fun r => toBytes ((Z r).take (L r))) r (toBytes ((Z r).take (L r))) (by simp [hr])
      unfold fln at hfl
      omega
    refine ⟨(List.range len).map fun r => toBytes ((Z r).take (L r)), ?_, by omega, by simp; omega⟩
    refine ⟨some a, cap, by simp, by simp; omega, by simp; omega, by unfold maxLen at hm; omega, fun k l hk => ?_⟩
    have hkl : k < len := by
      have := (List.getElem?_eq_some_iff.1 hk).1
      simpa using this
    obtain ⟨hc, hLC, hCm, hZ, hw, hnone, hcell⟩ := hrow k (by omega)
    have hl2 : toBytes ((Z k).take (L k)) = l := by simpa [hkl] using hk
    subst hl2
    obtain ⟨b, off, spot⟩ := a
    have hspot : spot = none := by
      have h0 := (hrow 0 (by omega)).1
      simpa [Addr.add] using World.cell?_spot h0
    subst hspot
    rw [Go.WideShapes.add_plain] at hc
    refine ⟨b, off, _, rfl, cell_lt hc, hc, ?_⟩
    have hlk := hlen2 k hkl
    rw [toBytes_length, List.length_take] at hlk
    cases hA : A k with
    | none =>
      have hC := hnone hA
      have hL : L k = 0 := by omega
      rw [hC, hL]
      exact Rd.none_ _ _
    | some ad => exact rd_row hLC hCm hZ (by omega) hw (fun i hi => (hcell ad hA).2 i (by omega))
end Go.Proofs.YtlbfgkocpjlamaaGreatDoor
