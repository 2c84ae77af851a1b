/-
  Rows picked out of Unit with Cauchy's below, told plainly: as many unlike ones as columns have an inverse.
-/
import Derived.Test.YtjojimmfjmchcaaGmQ
namespace Go.Proofs.Ytjojimmfjmchcaa

theorem gauss_or (n : Nat) (M : MtF) : ∀ c, c ≤ n → (∃ a o, GaussI n M a o c) ∨ SingI n M
  | 0, _ => .inl ⟨_, _, GaussI.start n M⟩
  | c + 1, hc => by
    rcases gauss_or n M c (by omega) with ⟨a, o, h⟩ | h
    · by_cases hz : ∀ i, c ≤ i → i < n → a i c = 0#8
      · exact .inr (gauss_sing h (by omega) hz)
      · have hz2 : ∃ i, c ≤ i ∧ i < n ∧ a i c ≠ 0#8 := Classical.byContradiction fun hno => hz fun i h1 h2 => Classical.byContradiction fun h3 => hno ⟨i, h1, h2, h3⟩
        obtain ⟨p, h1, h2, h3⟩ := hz2
        exact .inl ⟨_, _, h.turn_on (by omega) h1 h2 h3⟩
    · exact .inr h
theorem inv_or (n : Nat) (M : MtF) : (∃ X, InvI n M X) ∨ SingI n M := by
  rcases gauss_or n M n (Nat.le_refl _) with ⟨a, o, h⟩ | h
  · exact .inl ⟨o, gauss_inv h⟩
  · exact .inr h
/-- Unit with Cauchy's below. -/
def allF (k : Nat) : MtF := fun i j => if i < k then unitF i j else cauF k (i - k) j
theorem all_tab (k m : Nat) : tabM k k unitF ++ tabM m k (cauF k) = tabM (k + m) k (allF k) := by
  refine List.ext_getElem? fun i => ?_
  by_cases h1 : i < k
  · rw [List.getElem?_append_left (by rw [tabM_len]; exact h1), tabM_at h1, tabM_at (by omega)]
    congr 1
    refine rowM_congr fun j _ => ?_
    unfold allF
    rw [if_pos h1]
  · rw [List.getElem?_append_right (by rw [tabM_len]; omega), tabM_len]
    by_cases h2 : i < k + m
    · rw [tabM_at (by omega), tabM_at h2]
      congr 1
      refine rowM_congr fun j _ => ?_
      unfold allF
      rw [if_neg h1]
    · rw [List.getElem?_eq_none (by rw [tabM_len]; omega), List.getElem?_eq_none (by rw [tabM_len]; omega)]
/-- The rows of the numbers r. -/
def pickF (k : Nat) (r : List Nat) : MtF := fun i => allF k (r.getD i 0)
theorem pick_inv {k K : Nat} {r : List Nat} (hlen : r.length = k) (hnd : r.Nodup) (hlt : ∀ a ∈ r, a < K) (hK : K ≤ 256) (hk : k ≤ 256) : ∃ X, InvI k (pickF k r) X := by
  rcases inv_or k (pickF k r) with h | ⟨x, ⟨c, hc, hx⟩, hz⟩
  · exact h
  · exfalso
    have h1 := picks_zero k r hlen hnd (fun a ha => by have := hlt a ha; omega) hk x (fun a ha => by
      obtain ⟨i, hi⟩ := List.getElem?_of_mem ha
      have hil : i < k := by rw [← hlen]; exact (List.getElem?_eq_some_iff.1 hi).1
      have h2 := hz i hil
      have h3 : pickF k r i = allF k a := by
        unfold pickF
        rw [List.getD_eq_getElem?_getD, hi]
        rfl
      rw [h3] at h2
      by_cases hak : a < k
      · rw [if_pos hak]
        have h4 : dotN k (allF k a) x = dotN k (unitF a) x := dot_congr (fun j _ => by unfold allF; rw [if_pos hak]) fun _ _ => rfl
        rw [h4, dot_unit hak] at h2
        exact h2
      · rw [if_neg hak]
        have h4 : dotN k (allF k a) x = sumN k fun j => mulG (invG (bvG a ^^^ bvG j)) (x j) := by
          refine sum_congr fun j _ => ?_
          show mulG (allF k a j) (x j) = _
          unfold allF cauF
          rw [if_neg hak, show k + (a - k) = a by omega]
        rw [h4] at h2
        exact h2)
    rw [h1 c hc] at hx
    exact absurd hx (by decide)
theorem free_one {K : Nat} {r : List Nat} (hl : r.length < K) : ∃ j, j < K ∧ j ∉ r := by
  refine Classical.byContradiction fun h => ?_
  have h1 := sub_len (List.range K) r List.nodup_range fun x hx => by
    refine Classical.byContradiction fun h2 => h ⟨x, List.mem_range.1 hx, h2⟩
  rw [List.length_range] at h1
  omega
end Go.Proofs.Ytjojimmfjmchcaa
