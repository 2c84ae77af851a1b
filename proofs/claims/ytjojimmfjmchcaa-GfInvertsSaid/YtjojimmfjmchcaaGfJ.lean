/-
  Matrices over the field of 256, told plainly: one column turned to Unit's (a row with an element there put in its place, scaled, its multiples added to the others); inverses are unique.
-/
import Derived.Test.YtjojimmfjmchcaaGfK
namespace Go.Proofs.Ytjojimmfjmchcaa

section
variable {n : Nat} {M a o a' o' : MtF}
theorem TurnI.congr (h : TurnI n M a o) (ha : ∀ i, i < n → ∀ j, j < n → a' i j = a i j) (ho : ∀ i, i < n → ∀ j, j < n → o' i j = o i j) : TurnI n M a' o' := by
  have hd : ∀ (b b' : MtF), (∀ i, i < n → ∀ j, j < n → b' i j = b i j) → ∀ i, i < n → ∀ x, dotN n (b' i) x = dotN n (b i) x := fun b b' hb i hi x => dot_congr (fun k hk => hb i hi k hk) fun _ _ => rfl
  refine ⟨fun i hi j hj => ?_, fun x hx => h.am x fun i hi => ?_, fun x hx => h.o0 x fun i hi => ?_⟩
  · unfold prodF
    rw [hd o o' ho i hi, ha i hi j hj]
    exact h.om i hi j hj
  · rw [← hd a a' ha i hi]; exact hx i hi
  · rw [← hd o o' ho i hi]; exact hx i hi
/-- Row c's multiples added to the first k rows but itself. -/
def mixF (k c : Nat) (a b : MtF) : MtF := fun i j => if i < k ∧ i ≠ c then b i j ^^^ mulG (a i c) (b c j) else b i j
theorem TurnI.mixes (h : TurnI n M a o) {c : Nat} (hc : c < n) : ∀ k, k ≤ n → TurnI n M (mixF k c a a) (mixF k c a o)
  | 0, _ => h.congr (fun i _ j _ => by unfold mixF; rw [if_neg (by omega)]) (fun i _ j _ => by unfold mixF; rw [if_neg (by omega)])
  | k + 1, hk => by
    have ih := h.mixes hc k (by omega)
    by_cases hkc : k = c
    · refine ih.congr (fun i _ j _ => ?_) fun i _ j _ => ?_
      all_goals
        unfold mixF
        by_cases h1 : i < k ∧ i ≠ c
        · rw [if_pos h1, if_pos (by omega)]
        · rw [if_neg h1, if_neg (by omega)]
    · refine ih.mix (r := k) (y := a k c) hc hkc (fun i _ j _ => ?_) fun i _ j _ => ?_
      all_goals
        unfold mixF
        rw [if_neg (show ¬(c < k ∧ c ≠ c) from fun e => e.2 rfl)]
        by_cases h1 : i = k
        · subst h1
          rw [if_pos (⟨Nat.lt_succ_self _, hkc⟩ : i < i + 1 ∧ i ≠ c), if_pos rfl, if_neg (fun e => absurd e.1 (Nat.lt_irrefl _))]
        · by_cases h2 : i < k ∧ i ≠ c
          · rw [if_pos (⟨by omega, h2.2⟩ : i < k + 1 ∧ i ≠ c), if_neg h1, if_pos h2]
          · rw [if_neg (show ¬(i < k + 1 ∧ i ≠ c) by omega), if_neg h1, if_neg h2]
/-- The first c columns are Unit's. -/
structure GaussI (n : Nat) (M a o : MtF) (c : Nat) : Prop where
  turn : TurnI n M a o
  cols : ∀ i, i < n → ∀ j, j < c → a i j = unitF i j
theorem GaussI.start (n : Nat) (M : MtF) : GaussI n M M unitF 0 := ⟨TurnI.start n M, fun _ _ j hj => by omega⟩
def swF (c p : Nat) (b : MtF) : MtF := fun i => b (if i = c then p else if i = p then c else i)
def scF (c : Nat) (y : G8) (b : MtF) : MtF := fun i j => if i = c then mulG y (b i j) else b i j
theorem GaussI.step {c p : Nat} (h : GaussI n M a o c) (hc : c < n) (hcp : c ≤ p) (hp : p < n) (hpc : a p c ≠ 0#8) :
    GaussI n M (mixF n c (scF c (invG (a p c)) (swF c p a)) (scF c (invG (a p c)) (swF c p a))) (mixF n c (scF c (invG (a p c)) (swF c p a)) (scF c (invG (a p c)) (swF c p o))) (c + 1) := by
  have h1 : TurnI n M (swF c p a) (swF c p o) := h.turn.swap hc hp (fun _ _ => rfl) fun _ _ => rfl
  have h2 : TurnI n M (scF c (invG (a p c)) (swF c p a)) (scF c (invG (a p c)) (swF c p o)) := h1.scale (inv_ne hpc) (fun _ _ _ _ => rfl) fun _ _ _ _ => rfl
  refine ⟨h2.mixes hc n (Nat.le_refl _), fun i hi j hj => ?_⟩
  have hsw : ∀ i, i < n → ∀ j, j < c → swF c p a i j = unitF i j := fun i hi j hj => by
    unfold swF
    by_cases e1 : i = c
    · rw [if_pos e1, h.cols p hp j hj]
      unfold unitF
      rw [if_neg (by omega), if_neg (by omega)]
    · rw [if_neg e1]
      by_cases e2 : i = p
      · rw [if_pos e2, h.cols c hc j hj]
        unfold unitF
        rw [if_neg (by omega), if_neg (by omega)]
      · rw [if_neg e2, h.cols i hi j hj]
  have hsc : ∀ i, i < n → ∀ j, j < c → scF c (invG (a p c)) (swF c p a) i j = unitF i j := fun i hi j hj => by
    unfold scF
    by_cases e1 : i = c
    · rw [if_pos e1, hsw i hi j hj]
      unfold unitF
      rw [if_neg (by omega), mul_zero]
    · rw [if_neg e1, hsw i hi j hj]
  have hcc : scF c (invG (a p c)) (swF c p a) c c = 1#8 := by
    unfold scF swF
    rw [if_pos rfl, if_pos rfl, mul_comm, inv_mul hpc]
  rcases Nat.lt_or_eq_of_le (Nat.lt_succ_iff.1 hj) with hjc | rfl
  · unfold mixF
    by_cases e : i < n ∧ i ≠ c
    · rw [if_pos e, hsc i hi j hjc, hsc c hc j hjc]
      have h0 : unitF c j = 0#8 := by unfold unitF; rw [if_neg (by omega)]
      rw [h0, mul_zero, BitVec.xor_zero]
    · rw [if_neg e, hsc i hi j hjc]
  · unfold mixF
    by_cases e : i < n ∧ i ≠ j
    · rw [if_pos e, hcc, mul_one, BitVec.xor_self]
      unfold unitF
      rw [if_neg e.2]
    · have hij : i = j := Classical.byContradiction fun x => e ⟨hi, x⟩
      subst hij
      rw [if_neg e, hcc]
      unfold unitF
      rw [if_pos rfl]
theorem GaussI.done (h : GaussI n M a o n) : (∀ i, i < n → ∀ j, j < n → prodF n o M i j = unitF i j) ∧ (∀ i, i < n → ∀ j, j < n → prodF n M o i j = unitF i j) := h.turn.done h.cols
theorem GaussI.stuck {c : Nat} (h : GaussI n M a o c) (hc : c < n) (hz : ∀ i, c ≤ i → i < n → a i c = 0#8) : ∃ x : Nat → G8, x c = 1#8 ∧ ∀ i, i < n → dotN n (M i) x = 0#8 := h.turn.stuck hc h.cols hz
end
/-- Two matrices that make Unit from the left and from the right are one. -/
theorem inverse_one {n : Nat} {M X Y : MtF} (hX : ∀ i, i < n → ∀ j, j < n → prodF n X M i j = unitF i j) (hY : ∀ i, i < n → ∀ j, j < n → prodF n M Y i j = unitF i j) : ∀ i, i < n → ∀ j, j < n → X i j = Y i j := fun i hi j hj => by
  have h1 := dot_dot n n (X i) M fun k => Y k j
  have h2 : dotN n (fun l => dotN n (X i) fun k => M k l) (fun k => Y k j) = dotN n (unitF i) fun k => Y k j := dot_congr (fun l hl => hX i hi l hl) fun _ _ => rfl
  have h3 : dotN n (X i) (fun k => dotN n (M k) fun l => Y l j) = dotN n (X i) fun k => unitF k j := dot_congr (fun _ _ => rfl) fun k hk => hY k hk j hj
  rw [h2, dot_unit hi, h3, dot_unit_right hj] at h1
  exact h1.symm
end Go.Proofs.Ytjojimmfjmchcaa
