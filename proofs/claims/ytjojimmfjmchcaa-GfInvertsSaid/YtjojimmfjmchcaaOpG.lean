/-
  From an argument's reading to the words of the walks over the field of 256: one byte, a slice of bytes, a slice of slices of bytes (by the bulk).
-/
import Derived.Test.YtjojimmfjmchcaaOpE
import Derived.Test.YtjojimmfjmchcaaGmA
namespace Go.Proofs.Ytjojimmfjmchcaa.Ope
open Go.ChangeShapes Go.WideShapes Go.ChangeAt Go.RowKit Go.Deep Go.Proofs.Ytjojimmfjmchcaa

theorem u8_g8 (x : Int) (h : 0 ≤ x ∧ x ≤ 255) : ∃ a : G8, x = (a.toNat : Int) := by
  obtain ⟨n, rfl⟩ := Int.eq_ofNat_of_zero_le h.1
  refine ⟨BitVec.ofNat 8 n, ?_⟩
  rw [BitVec.toNat_ofNat]
  omega
theorem open_byt {H : Type} {enc : TypeId × Value → H} {W : World} {v : Value} {d : DataW H} {ps : List MemPlace} (hok : ∃ a len cap, v = .slice a len cap)
    (h : DataW.Trod enc Try.prog W 0 (fun _ => true) true 48 v d ps) (hbulk : Rows.uptoBulk d ≤ 1048576) :
    ∃ l, By W (fun k => k < W.heap.size) v l ∧ l.length ≤ 1048576 := by
  obtain ⟨a0, len0, cap0, rfl⟩ := hok
  obtain ⟨fuel, hf⟩ := h
  exact bytes_field hf hbulk
set_option maxRecDepth 100000 in
theorem open_mx {H : Type} {enc : TypeId × Value → H} {W : World} {v : Value} {d : DataW H} {ps : List MemPlace} (hok : ∃ a len cap, v = .slice a len cap)
    (h : DataW.Trod enc Try.prog W 0 (fun _ => true) true 36 v d ps) (hbulk : Rows.uptoBulk d ≤ 1048576) :
    ∃ ls, Mx W (fun k => k < W.heap.size) v ls ∧ ls.length ≤ 1048576 ∧ ∀ l ∈ ls, l.length ≤ 1048576 := by
  obtain ⟨a0, len0, cap0, rfl⟩ := hok
  obtain ⟨fuel, hf⟩ := h
  rcases open_slice Try.underlying36 hf with ⟨hcs, hx⟩ | ⟨a, len, cap, m, n, D, Pl, hcs, _, hl, hm, hmm, hx, hel⟩
  · have hv : Value.slice a0 len0 cap0 = .slice none 0 0 := (List.cons.inj hcs).1
    rw [hv]
    exact ⟨[], Mx.nil _ _, by simp, (fun l hl => by cases hl)⟩
  · have hv : Value.slice a0 len0 cap0 = .slice (some a) len cap := (List.cons.inj hcs).1
    rw [hv]
    injection hx with hd _
    subst hd
    simp only [if_true] at hmm
    subst hmm
    obtain ⟨b, off, spot⟩ := a
    have hlen : len ≤ 1048576 := by
      have h1 := bulk_length ((List.range len).map D)
      simp only [Rows.uptoBulk] at hbulk
      simp only [List.length_map, List.length_range] at h1
      omega
    have hone : ∀ i, i < len → ∃ (xu : List UInt8 × Value), spot = none ∧ By W (fun k => k < W.heap.size) xu.2 xu.1 ∧ xu.1.length ≤ 1048576 ∧ W.cell? ⟨b, off + i, none⟩ = some xu.2 := by
      intro i hi
      obtain ⟨cs', h1, h2⟩ := hel i (by omega)
      rw [cellsSl1] at h1 
      have h3 : Rows.uptoBulk (D i) ≤ Rows.uptoBulkAll ((List.range len).map D) := bulk_mem (List.mem_map.2 ⟨i, List.mem_range.2 hi, rfl⟩)
      simp only [Rows.uptoBulk] at hbulk
      obtain ⟨cs0, h0, _⟩ := hel 0 (by omega)
      rw [cellsSl1] at h0
      obtain ⟨_, hl0, hc0⟩ := World.cells?_some h0
      have hspot : spot = none := by
        have e0 := hc0 0 (by omega)
        rw [List.getElem?_eq_getElem (by omega)] at e0
        simpa [Addr.add] using World.cell?_spot e0
      subst hspot
      rw [Go.WideShapes.add_plain] at h1
      obtain ⟨_, hl1, hc1⟩ := World.cells?_some h1
      match cs', hl1, h2, hc1 with
      | [u], _, h2, hc1 =>
        have e1 := hc1 0 (by omega)
        simp only [Go.WideShapes.add_plain, List.getElem?_cons_zero, Nat.add_zero, Nat.mul_one] at e1
        obtain ⟨l, r1, r2⟩ := bytes_field h2 (by omega)
        exact ⟨(l, u), rfl, r1, r2, e1⟩
    obtain ⟨X, hX⟩ := choose_lt (α := List UInt8 × Value) (p := fun i xu => spot = none ∧ By W (fun k => k < W.heap.size) xu.2 xu.1 ∧ xu.1.length ≤ 1048576 ∧ W.cell? ⟨b, off + i, none⟩ = some xu.2) hone
    have hll : ((List.range len).map fun i => (X i).1).length = len := by simp
    refine ⟨(List.range len).map fun i => (X i).1, ⟨(List.range len).map fun i => (X i).2, by simp, ⟨some ⟨b, off, spot⟩, m, by rw [hll], by rw [hll]; exact hl, by rw [hll]; omega, by unfold maxLen at hm; exact hm, (fun e => by cases e), fun j y hj => ?_⟩, fun k u l hu he => ?_⟩, by rw [hll]; exact hlen, fun l hl => ?_⟩
    · have hjl : j < len := by
        have := (List.getElem?_eq_some_iff.1 hj).1
        simpa using this
      obtain ⟨hs, _, _, e0⟩ := hX j hjl
      subst hs
      refine ⟨b, off, rfl, cell_lt e0, cell_lt e0, ?_⟩
      have : (X j).2 = y := by simpa [hjl] using hj
      rw [e0, this]
    · have hkl : k < len := by
        have := (List.getElem?_eq_some_iff.1 he).1
        rwa [hll] at this
      have e1 : (X k).1 = l := by simpa [hkl] using he
      have e2 : (X k).2 = u := by simpa [hkl] using hu
      subst e1 e2
      exact (hX k hkl).2.1
    · obtain ⟨i, hi, rfl⟩ := List.mem_map.1 hl
      exact (hX i (List.mem_range.1 hi)).2.2.1
theorem bytesInt : Try.prog.bytesOf 3 = 8 := by kernel_rfl
theorem reach_eq : reachBytes = 140737488351232 := rfl
set_option maxRecDepth 100000 in
theorem open_intsV {H : Type} {enc : TypeId × Value → H} {W : World} {v : Value} {d : DataW H} {ps : List MemPlace} (hok : ∃ a len cap, v = .slice a len cap)
    (h : DataW.Trod enc Try.prog W 0 (fun _ => true) true 49 v d ps) (hlen : ∀ elems spare, d = .slice elems spare → elems.length + spare.length ≤ 140737488355328) :
    ∃ l : List Int, RdV W (fun _ => False) v (l.map (Value.int .i64)) ∧ (∀ n ∈ l, -9223372036854775808 ≤ n ∧ n ≤ 9223372036854775807) ∧ ((d = .nil ∧ l = []) ∨ ∃ elems spare, d = .slice elems spare ∧ l.length = elems.length) := by
  obtain ⟨a0, len0, cap0, rfl⟩ := hok
  obtain ⟨fuel, hf⟩ := h
  rcases open_ints Try.underlying49 Try.underlying3 cellsInt hf with ⟨hcs, hx⟩ | ⟨a, len, cap, zs, hcs, _, hl, hm, hz, hx, hcell, hwz⟩
  · have hv : Value.slice a0 len0 cap0 = .slice none 0 0 := (List.cons.inj hcs).1
    rw [hv]
    injection hx with hd _
    exact ⟨[], RdV.nil _ _, (fun n hn => by cases hn), .inl ⟨hd, rfl⟩⟩
  · have hv : Value.slice a0 len0 cap0 = .slice (some a) len cap := (List.cons.inj hcs).1
    rw [hv]
    injection hx with hd _
    simp only [if_true] at hz
    have hb := hlen _ _ hd
    simp only [lits, List.length_map, List.length_take, List.length_drop] at hb
    have hlt : (zs.take len).length = len := by rw [List.length_take]; omega
    refine ⟨zs.take len, ⟨some a, cap, by rw [List.length_map, hlt], by rw [List.length_map, hlt]; exact hl, by rw [List.length_map, hlt]; omega, by unfold maxLen at hm; exact hm, (fun e => by cases e), fun k x hx => ?_⟩, fun n hn => Go.bounds_i64 (hwz n (List.mem_of_mem_take hn)), .inr ⟨_, _, hd, by simp [lits]⟩⟩
    have hk : k < len := by
      have := (List.getElem?_eq_some_iff.1 hx).1
      rw [List.length_map, hlt] at this
      exact this
    obtain ⟨b, off, rfl, hc2⟩ := ints_at hcell (by omega)
    have hc3 := hc2 k (by omega)
    refine ⟨b, off, rfl, cell_lt hc3, (fun hf => hf), ?_⟩
    rw [hc3, ← hx]
    have hkz : k < zs.length := by omega
    simp [hk, hkz]
end Go.Proofs.Ytjojimmfjmchcaa.Ope
