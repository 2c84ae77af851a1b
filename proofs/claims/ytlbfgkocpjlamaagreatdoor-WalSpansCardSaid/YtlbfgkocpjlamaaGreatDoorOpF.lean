/-
  From an argument's reading to the words of the walks, for any arguments within the machine's reach: a slice of slices of bytes, a slice of bools.
-/
import Derived.Test.YtlbfgkocpjlamaaGreatDoorOpW
import Derived.Deep.Grids
namespace Go.Proofs.YtlbfgkocpjlamaaGreatDoor
open Go.ChangeShapes Go.WideShapes Go.ChangeAt Go.RowKit Go.Deep

theorem cellsBool : Tryz.prog.cellsOf 4 = 1 := by kernel_rfl
theorem bytesBool : Tryz.prog.bytesOf 4 = 1 := by kernel_rfl
theorem bytesSl : Tryz.prog.bytesOf 41 = 24 := by kernel_rfl
theorem weightsAll_in {H : Type} {P : Program} {e : TypeId} : ∀ {l : List (DataW H)} {d : DataW H}, d ∈ l → ∀ n ∈ d.weights P e, n ∈ DataW.weightsAll P e l
  | x :: r, d, hd, n, hn => by
    simp only [DataW.weightsAll, List.mem_append]
    rcases List.mem_cons.1 hd with rfl | h
    · exact .inl hn
    · exact .inr (weightsAll_in h n hn)
section
variable {H : Type} {enc : TypeId × Value → H} {W : World} {v : Value} {d : DataW H} {ps : List MemPlace} {ts : List TypeId} {ds : List (DataW H)} {j : Nat}
theorem open_lists_f (hsz : (DataW.weightsEach Tryz.prog ts ds).all (· ≤ reachBytes) = true) (ht : ts[j]? = some 31) (hd : ds[j]? = some d) (hok : ∃ a len cap, v = .slice a len cap)
    (h : DataW.Trod enc Tryz.prog W 0 (fun _ => true) true 31 v d ps) : ∃ ls, RdL W W.heap.size v ls := by
  obtain ⟨a0, len0, cap0, rfl⟩ := hok
  obtain ⟨fuel, hf⟩ := h
  rcases open_int_rows Tryz.underlying31 Tryz.underlying41 Tryz.underlying5 cellsBytes cellsU8 hf with ⟨hcs, hx⟩ | ⟨a, len, cap, A, L, C, Z, hcs, _, hl, hm, hx, hrow⟩
  · have hv : Value.slice a0 len0 cap0 = .slice none 0 0 := (List.cons.inj hcs).1
    rw [hv]
    exact ⟨[], RdL.none_ _ _⟩
  · have hv : Value.slice a0 len0 cap0 = .slice (some a) len cap := (List.cons.inj hcs).1
    rw [hv]
    injection hx with hdd _
    subst hdd
    have h1 := sized_slice hsz (j := j) (t := 31) (e := 41) ht hd Tryz.underlying31
    simp only [List.length_map, List.length_range] at h1
    rw [bytesSl, reach_eq] at h1
    have hlen2 : ∀ r, r < len → (toBytes ((Z r).take (L r))).length ≤ 140737488355328 := by
      intro r hr
      obtain ⟨_, hLC, _, hZ, _, hnone, _⟩ := hrow r (by omega)
      rw [toBytes_length, List.length_take]
      cases hA : A r with
      | none =>
        have := hnone hA
        omega
      | some ad =>
        have hm2 : (intRow .u8 (A r) (L r) (Z r) : DataW H) ∈ (List.range len).map fun r => (intRow .u8 (A r) (L r) (Z r) : DataW H) := List.mem_map.2 ⟨r, List.mem_range.2 hr, rfl⟩
        have h2 := List.all_eq_true.1 hsz (((lits (H := H) .u8 ((Z r).take (L r))).length + (lits (H := H) .u8 ((Z r).drop (L r))).length) * Tryz.prog.bytesOf 5) (DataW.weights_mem_each ht hd _ (by
          simp only [DataW.weights, Tryz.underlying31, List.mem_cons, List.mem_append]
          refine .inr (.inl (weightsAll_in hm2 _ ?_))
          rw [hA]
          simp [intRow, DataW.weights, Tryz.underlying41, lits]))
        have h2 := of_decide_eq_true h2
        rw [bytesU8, reach_eq] at h2
        simp only [lits, List.length_map, List.length_take] at h2
        omega
    refine ⟨(List.range len).map fun r => toBytes ((Z r).take (L r)), some a, cap, by simp, by simp; omega, by simp; omega, by unfold maxLen at hm; omega, fun k l hk => ?_⟩
    have hkl : k < len := by
      have := (List.getElem?_eq_some_iff.1 hk).1
      simpa using this
    obtain ⟨hc, hLC, hCm, hZ, hw, hnone, hcell⟩ := hrow k (by omega)
    have hl2 : toBytes ((Z k).take (L k)) = l := by simpa [hkl] using hk
    subst hl2
    obtain ⟨b, off, spot⟩ := a
    have hspot : spot = none := by
      have h0 := (hrow 0 (by omega)).1
      simpa [Addr.add] using World.cell?_spot h0
    subst hspot
    rw [Go.WideShapes.add_plain] at hc
    refine ⟨b, off, _, rfl, cell_lt hc, hc, ?_⟩
    have hlk := hlen2 k hkl
    rw [toBytes_length, List.length_take] at hlk
    cases hA : A k with
    | none =>
      have hC := hnone hA
      have hL : L k = 0 := by omega
      rw [hC, hL]
      exact Rd.none_ _ _
    | some ad => exact rd_row hLC hCm hZ (by omega) hw (fun i hi => (hcell ad hA).2 i (by omega))
theorem open_bools_f (hsz : (DataW.weightsEach Tryz.prog ts ds).all (· ≤ reachBytes) = true) (ht : ts[j]? = some 46) (hd : ds[j]? = some d) (hok : ∃ a len cap, v = .slice a len cap)
    (h : DataW.Trod enc Tryz.prog W 0 (fun _ => true) true 46 v d ps) : ∃ l : List Bool, RdV W (fun _ => False) v (l.map Value.bool) := by
  obtain ⟨a0, len0, cap0, rfl⟩ := hok
  obtain ⟨fuel, hf⟩ := h
  rcases open_bools Tryz.underlying46 Tryz.underlying4 cellsBool hf with ⟨hcs, hx⟩ | ⟨a, len, cap, B, hcs, _, hl, hm, hx, hcell⟩
  · have hv : Value.slice a0 len0 cap0 = .slice none 0 0 := (List.cons.inj hcs).1
    rw [hv]
    exact ⟨[], RdV.nil _ _⟩
  · have hv : Value.slice a0 len0 cap0 = .slice (some a) len cap := (List.cons.inj hcs).1
    rw [hv]
    injection hx with hdd _
    subst hdd
    have h1 := sized_slice hsz (j := j) (t := 46) (e := 4) ht hd Tryz.underlying46
    simp only [List.length_map, List.length_range] at h1
    rw [bytesBool, reach_eq] at h1
    refine ⟨(List.range len).map B, some a, cap, by simp, by simp; exact hl, by simp; omega, by unfold maxLen at hm; exact hm, (fun e => by cases e), fun k x hx => ?_⟩
    have hk : k < len := by
      have := (List.getElem?_eq_some_iff.1 hx).1
      simpa using this
    obtain ⟨b, off, spot⟩ := a
    have hspot : spot = none := by simpa [Addr.add] using World.cell?_spot (hcell 0 (by omega))
    subst hspot
    have hc := hcell k (by omega)
    rw [Go.WideShapes.add_plain] at hc
    refine ⟨b, off, rfl, cell_lt hc, (fun hf => hf), ?_⟩
    rw [hc, ← hx]
    simp [hk]
end
end Go.Proofs.YtlbfgkocpjlamaaGreatDoor
