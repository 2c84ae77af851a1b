/-
  The field of 256, told plainly: as many unlike rows of Unit with Cauchy's below as there are columns take nothing but noughts to noughts; the product's loop in numbers.
-/
import Derived.Test.YtjojimmfjmchcaaGfM
namespace Go.Proofs.Ytjojimmfjmchcaa

theorem sub_len {α : Type} [DecidableEq α] : ∀ (a b : List α), a.Nodup → (∀ x ∈ a, x ∈ b) → a.length ≤ b.length
  | [], _, _, _ => Nat.zero_le _
  | x :: r, b, hn, h => by
    have h1 := List.nodup_cons.1 hn
    obtain ⟨s, t, rfl⟩ := List.append_of_mem (h x (.head _))
    have h2 := sub_len r (s ++ t) h1.2 fun y hy => by
      rcases List.mem_append.1 (h y (.tail _ hy)) with h3 | h3
      · exact List.mem_append_left _ h3
      · rcases List.mem_cons.1 h3 with rfl | h3
        · exact absurd hy h1.1
        · exact List.mem_append_right _ h3
    simp only [List.length_append, List.length_cons] at h2 ⊢
    omega
abbrev bvG (n : Nat) : G8 := BitVec.ofNat 8 n
theorem bv_inj {m n : Nat} (hm : m < 256) (hn : n < 256) (h : bvG m = bvG n) : m = n := by
  have h1 := congrArg BitVec.toNat h
  simp only [BitVec.toNat_ofNat] at h1
  omega
theorem sumC_app (a : G8) : ∀ l m : List (G8 × G8), sumC a (l ++ m) = sumC a l ^^^ sumC a m
  | [], m => by rw [List.nil_append]; show _ = 0#8 ^^^ _; rw [BitVec.zero_xor]
  | p :: r, m => by rw [List.cons_append, sumC, sumC, sumC_app a r m, BitVec.xor_assoc]
theorem sumC_range (a : G8) (p : Nat → Bool) (x : Nat → G8) : ∀ k, sumC a (((List.range k).filter p).map fun j => (bvG j, x j)) = sumN k fun j => if p j = true then mulG (x j) (invG (a ^^^ bvG j)) else 0#8
  | 0 => rfl
  | k + 1 => by
    rw [List.range_succ, List.filter_append, List.map_append, sumC_app, sumC_range a p x k, sumN]
    congr 1
    by_cases h : p k = true
    · rw [if_pos h, List.filter_cons, if_pos h]
      show mulG _ _ ^^^ 0#8 = _
      rw [BitVec.xor_zero]
    · rw [if_neg h, List.filter_cons, if_neg h]
      rfl
theorem filter_two {α : Type} (p : α → Bool) : ∀ l : List α, (l.filter p).length + (l.filter fun x => !p x).length = l.length
  | [] => rfl
  | x :: r => by
    have h := filter_two p r
    rw [List.filter_cons, List.filter_cons]
    cases p x <;> simp <;> omega
theorem picks_zero (k : Nat) (r : List Nat) (hlen : r.length = k) (hnd : r.Nodup) (hlt : ∀ a ∈ r, a < 256) (hk : k ≤ 256) (x : Nat → G8)
    (hx : ∀ a ∈ r, (if a < k then x a else sumN k fun j => mulG (invG (bvG a ^^^ bvG j)) (x j)) = 0#8) : ∀ j, j < k → x j = 0#8 := by
  have hin : ∀ a ∈ r, a < k → x a = 0#8 := fun a ha hak => by
    have := hx a ha
    rwa [if_pos hak] at this
  let L := (List.range k).filter fun j => !r.contains j
  have hL : ∀ j, j ∈ L ↔ j < k ∧ j ∉ r := fun j => by
    show j ∈ (List.range k).filter _ ↔ _
    rw [List.mem_filter, List.mem_range]
    simp
  have hcount : L.length ≤ (r.filter fun a => !decide (a < k)).length := by
    have h1 := filter_two (fun j => r.contains j) (List.range k)
    have h2 := filter_two (fun a => decide (a < k)) r
    have h3 : (r.filter fun a => decide (a < k)).length ≤ ((List.range k).filter fun j => r.contains j).length := by
      refine sub_len _ _ (hnd.sublist List.filter_sublist) fun y hy => ?_
      rw [List.mem_filter] at hy ⊢
      exact ⟨List.mem_range.2 (by simpa using hy.2), List.contains_iff_mem.2 hy.1⟩
    rw [List.length_range] at h1
    show ((List.range k).filter _).length ≤ _
    omega
  have hz := cauchy_zero L.length (L.map fun j => (bvG j, x j)) ((r.filter fun a => !decide (a < k)).map bvG) (by rw [List.length_map]) (by rw [List.length_map, List.length_map]; exact hcount)
    (by
      refine List.pairwise_map.2 ?_
      refine List.Pairwise.imp_of_mem (R := fun a b => a ≠ b) (fun {a b} ha hb hne e => hne (bv_inj (hlt a (List.mem_filter.1 ha).1) (hlt b (List.mem_filter.1 hb).1) e)) (hnd.sublist List.filter_sublist))
    (by
      rw [List.map_map]
      refine List.pairwise_map.2 ?_
      refine List.Pairwise.imp_of_mem (R := fun a b => a ≠ b) (fun {a b} ha hb hne e => hne (bv_inj (by have := (hL a).1 ha; omega) (by have := (hL b).1 hb; omega) e)) (List.nodup_range.sublist List.filter_sublist))
    (fun a ha p hp e => by
      obtain ⟨a', ha', rfl⟩ := List.mem_map.1 ha
      obtain ⟨j, hj, rfl⟩ := List.mem_map.1 hp
      rw [List.mem_filter] at ha'
      have h1 : ¬ a' < k := by simpa using ha'.2
      have h2 := (hL j).1 hj
      have h3 := bv_inj (hlt a' ha'.1) (by omega) e
      omega)
    (fun a ha => by
      obtain ⟨a', ha', rfl⟩ := List.mem_map.1 ha
      rw [List.mem_filter] at ha'
      have h1 : ¬ a' < k := by simpa using ha'.2
      have h2 := hx a' ha'.1
      rw [if_neg h1] at h2
      refine (sumC_range (bvG a') (fun j => !r.contains j) x k).trans (Eq.trans (sum_congr fun j hj => ?_) h2)
      by_cases hjr : j ∈ r
      · rw [if_neg (by simpa using hjr), hin j hjr hj, mul_zero]
      · rw [if_pos (by simpa using hjr), mul_comm])
  intro j hj
  by_cases hjr : j ∈ r
  · exact hin j hjr hj
  · exact hz (bvG j, x j) (List.mem_map.2 ⟨j, (hL j).2 ⟨hj, hjr⟩, rfl⟩)

/-! ### the product's loop in numbers -/
theorem mulL_nil (n : Nat) (a : G8) : mulL n a 0#8 = 0#8 := by
  have h := mulL_right n a 0#8 0#8
  rw [BitVec.xor_self, BitVec.xor_self] at h
  exact h
theorem dbl_nat (a : G8) : (dblG a).toNat = if 256 ≤ 2 * a.toNat then (2 * a.toNat) ^^^ 285 else 2 * a.toNat := by
  refine all_eight (p := fun a => (dblG a).toNat = if 256 ≤ 2 * a.toNat then (2 * a.toNat) ^^^ 285 else 2 * a.toNat) ?_ a
  decide +kernel
theorem half_nat (b : G8) : (b >>> 1).toNat = b.toNat / 2 := by simp [BitVec.toNat_ushiftRight, Nat.shiftRight_eq_div_pow]
theorem odd_nat (b : G8) : b.getLsbD 0 = decide (b.toNat % 2 = 1) := by simp [BitVec.getLsbD, Nat.testBit_zero]
end Go.Proofs.Ytjojimmfjmchcaa
