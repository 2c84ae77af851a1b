/-
  Matrices over the field of 256, told plainly: one column turned to Unit's by adding a row's multiple, to itself too; what Inverse tells.
-/
import Derived.Test.YtjojimmfjmchcaaGmP
namespace Go.Proofs.Ytjojimmfjmchcaa

/-- Row k's multiple is added to row i. -/
def addR (b : MtF) (i k : Nat) (y : G8) : MtF := upR b i fun j => b i j ^^^ mulG y (b k j)
theorem addR_at (b : MtF) (i k : Nat) (y : G8) (j : Nat) : addR b i k y i j = b i j ^^^ mulG y (b k j) := by unfold addR upR; rw [if_pos rfl]
theorem addR_ne {b : MtF} {i k q : Nat} {y : G8} (h : q ≠ i) : addR b i k y q = b q := by unfold addR upR; rw [if_neg h]
section
variable {n : Nat} {M a o : MtF}
theorem TurnI.addR (h : TurnI n M a o) {i k : Nat} (hk : k < n) {y : G8} (hne : i = k → 1#8 ^^^ y ≠ 0#8) : TurnI n M (addR a i k y) (addR o i k y) := by
  by_cases e : i = k
  · subst e
    refine h.scale (c := i) (hne rfl) (fun q _ j _ => ?_) fun q _ j _ => ?_
    all_goals
      by_cases h1 : q = i
      · subst h1
        rw [addR_at, if_pos rfl, mul_left, one_mul]
      · rw [addR_ne h1, if_neg h1]
  · refine h.mix (c := k) (r := i) (y := y) hk e (fun q _ j _ => ?_) fun q _ j _ => ?_
    all_goals
      by_cases h1 : q = i
      · subst h1
        rw [addR_at, if_pos rfl]
      · rw [addR_ne h1, if_neg h1]
/-- What row p must be multiplied by, so that row c has 1 in column c. -/
def byF (a : MtF) (c p : Nat) : G8 := mulG (a c c ^^^ 1#8) (invG (a p c))
theorem by_one {c p : Nat} (hpc : a p c ≠ 0#8) : addR a c p (byF a c p) c c = 1#8 := by
  rw [addR_at]
  unfold byF
  rw [← mul_assoc, mul_comm (invG (a p c)), inv_mul hpc, mul_one, ← BitVec.xor_assoc, BitVec.xor_self, BitVec.zero_xor]
theorem by_ne {c p : Nat} (hpc : a p c ≠ 0#8) (e : c = p) : 1#8 ^^^ byF a c p ≠ 0#8 := fun hz => by
  have h := by_one hpc
  subst e
  rw [addR_at] at h
  have h2 : a c c ^^^ mulG (byF a c c) (a c c) = mulG (1#8 ^^^ byF a c c) (a c c) := by rw [mul_left, one_mul]
  rw [h2, hz, zero_mul] at h
  exact absurd h (by decide)
theorem GaussI.turn_on {c p : Nat} (h : GaussI n M a o c) (hc : c < n) (hcp : c ≤ p) (hp : p < n) (hpc : a p c ≠ 0#8) :
    GaussI n M (mixF n c (addR a c p (byF a c p)) (addR a c p (byF a c p))) (mixF n c (addR a c p (byF a c p)) (addR o c p (byF a c p))) (c + 1) := by
  have h1 : TurnI n M (addR a c p (byF a c p)) (addR o c p (byF a c p)) := h.turn.addR hp (by_ne hpc)
  have hcc := by_one hpc
  have hcol : ∀ i, i < n → ∀ j, j < c → addR a c p (byF a c p) i j = unitF i j := fun i hi j hj => by
    by_cases e : i = c
    · subst e
      rw [addR_at, h.cols i hi j hj, h.cols p hp j hj]
      have z1 : unitF i j = 0#8 := by unfold unitF; rw [if_neg (by omega)]
      have z2 : unitF p j = 0#8 := by unfold unitF; rw [if_neg (by omega)]
      rw [z1, z2, mul_zero, BitVec.xor_zero]
    · rw [addR_ne e]
      exact h.cols i hi j hj
  generalize addR a c p (byF a c p) = a1 at *
  generalize addR o c p (byF a c p) = o1 at *
  refine ⟨h1.mixes hc n (Nat.le_refl _), fun i hi j hj => ?_⟩
  rcases Nat.lt_or_eq_of_le (Nat.lt_succ_iff.1 hj) with hjc | rfl
  · unfold mixF
    by_cases e : i < n ∧ i ≠ c
    · rw [if_pos e, hcol i hi j hjc, hcol c hc j hjc]
      have h0 : unitF c j = 0#8 := by unfold unitF; rw [if_neg (by omega)]
      rw [h0, mul_zero, BitVec.xor_zero]
    · rw [if_neg e, hcol i hi j hjc]
  · unfold mixF
    by_cases e : i < n ∧ i ≠ j
    · rw [if_pos e, hcc, mul_one, BitVec.xor_self]
      unfold unitF
      rw [if_neg e.2]
    · have hij : i = j := Classical.byContradiction fun x => e ⟨hi, x⟩
      subst hij
      rw [if_neg e, hcc]
      unfold unitF
      rw [if_pos rfl]
end
theorem mixF_zero (c : Nat) (a b : MtF) : mixF 0 c a b = b := by
  funext i j
  unfold mixF
  rw [if_neg (by omega)]
theorem mixF_skip {k c : Nat} (a b : MtF) (h : k = c) : mixF (k + 1) c a b = mixF k c a b := by
  funext i j
  unfold mixF
  by_cases h1 : i < k ∧ i ≠ c
  · rw [if_pos h1, if_pos (by omega)]
  · rw [if_neg h1, if_neg (by omega)]
theorem mixF_next {k c : Nat} (a b : MtF) (h : k ≠ c) : addR (mixF k c a b) k c (a k c) = mixF (k + 1) c a b := by
  funext i j
  have hc : mixF k c a b c = b c := by
    funext q
    unfold mixF
    rw [if_neg (by omega)]
  by_cases h1 : i = k
  · subst h1
    rw [addR_at, hc]
    unfold mixF
    rw [if_neg (by omega), if_pos (by omega)]
  · rw [addR_ne h1]
    unfold mixF
    by_cases h2 : i < k ∧ i ≠ c
    · rw [if_pos h2, if_pos (by omega)]
    · rw [if_neg h2, if_neg (by omega)]
theorem mixF_own {k c : Nat} (a : MtF) (j : Nat) : mixF k c a a k j = a k j := by
  unfold mixF
  rw [if_neg (by omega)]

/-! ### what Inverse tells -/
def InvI (n : Nat) (M X : MtF) : Prop := (∀ i, i < n → ∀ j, j < n → prodF n X M i j = unitF i j) ∧ (∀ i, i < n → ∀ j, j < n → prodF n M X i j = unitF i j)
def SingI (n : Nat) (M : MtF) : Prop := ∃ x : Nat → G8, (∃ c, c < n ∧ x c = 1#8) ∧ ∀ i, i < n → dotN n (M i) x = 0#8
theorem inv_sing {n : Nat} {M X : MtF} (h : InvI n M X) (hs : SingI n M) : False := by
  obtain ⟨x, ⟨c, hc, hx⟩, hz⟩ := hs
  have := left_zero h.1 hz c hc
  rw [this] at hx
  exact absurd hx (by decide)
open Classical in
noncomputable def inverseR (A : List (List UInt8)) : List (List UInt8) × Int :=
  if rightL A = true ∧ A.length = colsL A then (if h : ∃ X, InvI A.length (ofL A) X then (tabM A.length A.length (Classical.choose h), 0) else ([], 17)) else ([], 1)
theorem inverseR_no {A : List (List UInt8)} (h : ¬(rightL A = true ∧ A.length = colsL A)) : inverseR A = ([], 1) := if_neg h
theorem inverseR_yes {A : List (List UInt8)} {X : MtF} (h : rightL A = true ∧ A.length = colsL A) (hX : InvI A.length (ofL A) X) : inverseR A = (tabM A.length A.length X, 0) := by
  unfold inverseR
  have he : ∃ X, InvI A.length (ofL A) X := ⟨X, hX⟩
  rw [if_pos h, dif_pos he]
  have h2 := Classical.choose_spec he
  rw [tabM_congr (inverse_one h2.1 hX.2)]
theorem inverseR_sing {A : List (List UInt8)} (h : rightL A = true ∧ A.length = colsL A) (hs : SingI A.length (ofL A)) : inverseR A = ([], 17) := by
  unfold inverseR
  rw [if_pos h, dif_neg (fun ⟨X, hX⟩ => inv_sing hX hs)]
theorem gauss_inv {n : Nat} {M a o : MtF} (h : GaussI n M a o n) : InvI n M o := h.done
theorem gauss_sing {n c : Nat} {M a o : MtF} (h : GaussI n M a o c) (hc : c < n) (hz : ∀ i, c ≤ i → i < n → a i c = 0#8) : SingI n M := by
  obtain ⟨x, hx, hz2⟩ := h.stuck hc hz
  exact ⟨x, ⟨c, hc, hx⟩, hz2⟩
end Go.Proofs.Ytjojimmfjmchcaa
