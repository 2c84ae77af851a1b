/-
  Matrices over the field of 256, told plainly: sums, products, and rows turned step by step to Unit's.
-/
import Derived.Test.YtjojimmfjmchcaaGfC
namespace Go.Proofs.Ytjojimmfjmchcaa

/-! ### sums -/
def sumN : Nat → (Nat → G8) → G8
  | 0, _ => 0#8
  | n + 1, f => sumN n f ^^^ f n
theorem sum_congr {f g : Nat → G8} : ∀ {n : Nat}, (∀ k, k < n → f k = g k) → sumN n f = sumN n g
  | 0, _ => rfl
  | n + 1, h => by rw [sumN, sumN, sum_congr fun k hk => h k (by omega), h n (by omega)]
theorem sum_xor (f g : Nat → G8) : ∀ n, sumN n (fun k => f k ^^^ g k) = sumN n f ^^^ sumN n g
  | 0 => by simp [sumN]
  | n + 1 => by rw [sumN, sumN, sumN, sum_xor f g n, xor_four]
theorem sum_mul (c : G8) (f : Nat → G8) : ∀ n, mulG c (sumN n f) = sumN n fun k => mulG c (f k)
  | 0 => mul_zero c
  | n + 1 => by rw [sumN, sumN, mul_right, sum_mul c f n]
theorem sum_nil (n : Nat) : sumN n (fun _ => 0#8) = 0#8 := by
  induction n with
  | zero => rfl
  | succ n ih => rw [sumN, ih, BitVec.xor_zero]
theorem sum_one {f : Nat → G8} {n i : Nat} (hi : i < n) (h : ∀ k, k < n → k ≠ i → f k = 0#8) : sumN n f = f i := by
  induction n with
  | zero => omega
  | succ n ih =>
    by_cases he : i = n
    · subst he
      rw [sumN, sum_congr (g := fun _ => 0#8) fun k hk => h k (by omega) (by omega), sum_nil, BitVec.zero_xor]
    · rw [sumN, ih (by omega) fun k hk hne => h k (by omega) hne, h n (by omega) (fun e => he e.symm), BitVec.xor_zero]
theorem sum_swap (f : Nat → Nat → G8) (m : Nat) : ∀ n, sumN n (fun i => sumN m fun j => f i j) = sumN m fun j => sumN n fun i => f i j
  | 0 => (sum_nil m).symm
  | n + 1 => by
    rw [sumN, sum_swap f m n, ← sum_xor]
    rfl

/-! ### rows times vectors -/
abbrev MtF := Nat → Nat → G8
def dotN (n : Nat) (f x : Nat → G8) : G8 := sumN n fun k => mulG (f k) (x k)
theorem dot_congr {n : Nat} {f g x y : Nat → G8} (h : ∀ k, k < n → f k = g k) (h2 : ∀ k, k < n → x k = y k) : dotN n f x = dotN n g y :=
  sum_congr fun k hk => by rw [h k hk, h2 k hk]
theorem dot_xor (n : Nat) (f g x : Nat → G8) : dotN n (fun k => f k ^^^ g k) x = dotN n f x ^^^ dotN n g x := by
  unfold dotN
  rw [← sum_xor]
  exact sum_congr fun k _ => mul_left _ _ _
theorem dot_mul (n : Nat) (c : G8) (f x : Nat → G8) : dotN n (fun k => mulG c (f k)) x = mulG c (dotN n f x) := by
  unfold dotN
  rw [sum_mul]
  exact sum_congr fun k _ => (mul_assoc c (f k) (x k)).symm
def unitF (i j : Nat) : G8 := if i = j then 1#8 else 0#8
theorem dot_unit {n i : Nat} (hi : i < n) (x : Nat → G8) : dotN n (unitF i) x = x i := by
  unfold dotN
  rw [sum_one hi fun k _ hne => by unfold unitF; rw [if_neg (fun e => hne e.symm), zero_mul]]
  unfold unitF
  rw [if_pos rfl, one_mul]
theorem dot_unit_right {n j : Nat} (hj : j < n) (f : Nat → G8) : dotN n f (fun k => unitF k j) = f j := by
  unfold dotN
  rw [sum_one hj fun k _ hne => by show mulG (f k) (unitF k j) = 0#8; unfold unitF; rw [if_neg hne, mul_zero]]
  show mulG (f j) (unitF j j) = f j
  unfold unitF
  rw [if_pos rfl, mul_one]
/-- A row times a matrix times a vector: either way. -/
theorem dot_dot (n m : Nat) (f : Nat → G8) (B : MtF) (x : Nat → G8) : dotN m (fun j => dotN n f fun k => B k j) x = dotN n f fun k => dotN m (B k) x := by
  unfold dotN
  have h1 : ∀ j, mulG (sumN n fun k => mulG (f k) (B k j)) (x j) = sumN n fun k => mulG (f k) (mulG (B k j) (x j)) := fun j => by
    rw [mul_comm, sum_mul]
    exact sum_congr fun k _ => by rw [mul_comm, mul_assoc]
  rw [sum_congr fun j _ => h1 j, sum_swap]
  exact sum_congr fun k _ => (sum_mul _ _ _).symm
/-- The product: rows of the first by columns of the second. -/
def prodF (n : Nat) (A B : MtF) : MtF := fun i j => dotN n (A i) fun k => B k j

/-! ### rows turned to Unit's -/
/-- M is turned to a by what turned Unit to o. -/
structure TurnI (n : Nat) (M a o : MtF) : Prop where
  om : ∀ i, i < n → ∀ j, j < n → prodF n o M i j = a i j
  am : ∀ x : Nat → G8, (∀ i, i < n → dotN n (a i) x = 0#8) → ∀ i, i < n → dotN n (M i) x = 0#8
  o0 : ∀ x : Nat → G8, (∀ i, i < n → dotN n (o i) x = 0#8) → ∀ i, i < n → x i = 0#8
theorem TurnI.start (n : Nat) (M : MtF) : TurnI n M M unitF :=
  ⟨fun i hi j _ => dot_unit hi _, fun _ h => h, fun x h i hi => by have := h i hi; rwa [dot_unit hi] at this⟩
section
variable {n : Nat} {M a o a' o' : MtF}
theorem TurnI.swap (h : TurnI n M a o) {c p : Nat} (hc : c < n) (hp : p < n) (ha : ∀ i, i < n → a' i = a (if i = c then p else if i = p then c else i)) (ho : ∀ i, i < n → o' i = o (if i = c then p else if i = p then c else i)) : TurnI n M a' o' := by
  have hlt : ∀ i, i < n → (if i = c then p else if i = p then c else i) < n := fun i hi => by
    by_cases h1 : i = c
    · rw [if_pos h1]; exact hp
    · rw [if_neg h1]
      by_cases h2 : i = p
      · rw [if_pos h2]; exact hc
      · rw [if_neg h2]; exact hi
  have hinv : ∀ i, i < n → ∃ j, j < n ∧ (if j = c then p else if j = p then c else j) = i := fun i hi => by
    by_cases h1 : i = c
    · refine ⟨p, hp, ?_⟩
      by_cases h2 : p = c
      · rw [if_pos h2, h2, h1]
      · rw [if_neg h2, if_pos rfl, h1]
    · by_cases h2 : i = p
      · exact ⟨c, hc, by rw [if_pos rfl, h2]⟩
      · exact ⟨i, hi, by rw [if_neg h1, if_neg h2]⟩
  refine ⟨fun i hi j hj => ?_, fun x hx => h.am x fun i hi => ?_, fun x hx => h.o0 x fun i hi => ?_⟩
  · unfold prodF
    rw [ho i hi, ha i hi]
    exact h.om _ (hlt i hi) j hj
  · obtain ⟨j, hj, he⟩ := hinv i hi
    have := hx j hj
    rwa [ha j hj, he] at this
  · obtain ⟨j, hj, he⟩ := hinv i hi
    have := hx j hj
    rwa [ho j hj, he] at this
theorem TurnI.scale (h : TurnI n M a o) {c : Nat} {y : G8} (hy : y ≠ 0#8) (ha : ∀ i, i < n → ∀ j, j < n → a' i j = if i = c then mulG y (a i j) else a i j) (ho : ∀ i, i < n → ∀ j, j < n → o' i j = if i = c then mulG y (o i j) else o i j) : TurnI n M a' o' := by
  have hd : ∀ (b b' : MtF), (∀ i, i < n → ∀ j, j < n → b' i j = if i = c then mulG y (b i j) else b i j) → ∀ i, i < n → ∀ x, dotN n (b' i) x = if i = c then mulG y (dotN n (b i) x) else dotN n (b i) x := fun b b' hb i hi x => by
    by_cases e : i = c
    · rw [if_pos e, ← dot_mul]
      exact dot_congr (fun k hk => by rw [hb i hi k hk, if_pos e]) fun _ _ => rfl
    · rw [if_neg e]
      exact dot_congr (fun k hk => by rw [hb i hi k hk, if_neg e]) fun _ _ => rfl
  refine ⟨fun i hi j hj => ?_, fun x hx => h.am x fun i hi => ?_, fun x hx => h.o0 x fun i hi => ?_⟩
  · unfold prodF
    rw [hd o o' ho i hi, ha i hi j hj]
    have h1 := h.om i hi j hj
    unfold prodF at h1
    rw [h1]
  · have h1 := hx i hi
    rw [hd a a' ha i hi] at h1
    by_cases e : i = c
    · rw [if_pos e] at h1
      exact mul_zero_of h1 hy
    · rwa [if_neg e] at h1
  · have h1 := hx i hi
    rw [hd o o' ho i hi] at h1
    by_cases e : i = c
    · rw [if_pos e] at h1
      exact mul_zero_of h1 hy
    · rwa [if_neg e] at h1
theorem TurnI.mix (h : TurnI n M a o) {c r : Nat} {y : G8} (hc : c < n) (hr : r ≠ c) (ha : ∀ i, i < n → ∀ j, j < n → a' i j = if i = r then a i j ^^^ mulG y (a c j) else a i j) (ho : ∀ i, i < n → ∀ j, j < n → o' i j = if i = r then o i j ^^^ mulG y (o c j) else o i j) : TurnI n M a' o' := by
  have hd : ∀ (b b' : MtF), (∀ i, i < n → ∀ j, j < n → b' i j = if i = r then b i j ^^^ mulG y (b c j) else b i j) → ∀ i, i < n → ∀ x, dotN n (b' i) x = if i = r then dotN n (b i) x ^^^ mulG y (dotN n (b c) x) else dotN n (b i) x := fun b b' hb i hi x => by
    by_cases e : i = r
    · rw [if_pos e, ← dot_mul, ← dot_xor]
      exact dot_congr (fun k hk => by rw [hb i hi k hk, if_pos e]) fun _ _ => rfl
    · rw [if_neg e]
      exact dot_congr (fun k hk => by rw [hb i hi k hk, if_neg e]) fun _ _ => rfl
  have hz : ∀ (b b' : MtF), (∀ i, i < n → ∀ j, j < n → b' i j = if i = r then b i j ^^^ mulG y (b c j) else b i j) → ∀ x, (∀ i, i < n → dotN n (b' i) x = 0#8) → ∀ i, i < n → dotN n (b i) x = 0#8 := fun b b' hb x hx i hi => by
    have h0 := hx c hc
    rw [hd b b' hb c hc, if_neg (fun e => hr e.symm)] at h0
    have h1 := hx i hi
    rw [hd b b' hb i hi] at h1
    by_cases e : i = r
    · rw [if_pos e, h0, mul_zero, BitVec.xor_zero] at h1
      exact h1
    · rwa [if_neg e] at h1
  refine ⟨fun i hi j hj => ?_, fun x hx => h.am x (hz a a' ha x hx), fun x hx => h.o0 x (hz o o' ho x hx)⟩
  unfold prodF
  rw [hd o o' ho i hi, ha i hi j hj]
  have h1 := h.om i hi j hj
  have h2 := h.om c hc j hj
  unfold prodF at h1 h2
  rw [h1, h2]
/-- Where a is Unit: o is the inverse, from either side. -/
theorem TurnI.done (h : TurnI n M a o) (ha : ∀ i, i < n → ∀ j, j < n → a i j = unitF i j) : (∀ i, i < n → ∀ j, j < n → prodF n o M i j = unitF i j) ∧ (∀ i, i < n → ∀ j, j < n → prodF n M o i j = unitF i j) := by
  have h1 : ∀ i, i < n → ∀ j, j < n → prodF n o M i j = unitF i j := fun i hi j hj => by rw [h.om i hi j hj, ha i hi j hj]
  refine ⟨h1, fun i hi j hj => ?_⟩
  have h2 := h.o0 (fun k => prodF n M o k j ^^^ unitF k j) (fun k hk => ?_) i hi
  · exact eq_of_xor h2
  · have h3 : dotN n (o k) (fun l => prodF n M o l j ^^^ unitF l j) = dotN n (o k) (fun l => prodF n M o l j) ^^^ dotN n (o k) (fun l => unitF l j) := by
      unfold dotN
      rw [← sum_xor]
      exact sum_congr fun l _ => mul_right _ _ _
    rw [h3, dot_unit_right hj]
    have h4 : dotN n (o k) (fun l => prodF n M o l j) = o k j := by
      unfold prodF
      rw [← dot_dot n n (o k) M fun l => o l j]
      have h5 : dotN n (fun l => dotN n (o k) fun q => M q l) (fun l => o l j) = dotN n (unitF k) fun l => o l j := dot_congr (fun l hl => h1 k hk l hl) fun _ _ => rfl
      rw [h5, dot_unit hk]
    rw [h4, BitVec.xor_self]
/-- Where column c has no element but noughts from row c on, and those ahead are Unit's: something but noughts is taken to noughts. -/
theorem TurnI.stuck (h : TurnI n M a o) {c : Nat} (hc : c < n) (hu : ∀ i, i < n → ∀ j, j < c → a i j = unitF i j) (hz : ∀ i, c ≤ i → i < n → a i c = 0#8) : ∃ x : Nat → G8, x c = 1#8 ∧ ∀ i, i < n → dotN n (M i) x = 0#8 := by
  refine ⟨fun j => if j = c then 1#8 else if j < c then a j c else 0#8, by simp, h.am _ fun i hi => ?_⟩
  have h1 : dotN n (a i) (fun j => if j = c then 1#8 else if j < c then a j c else 0#8) = sumN n fun k => (if k = c then a i c else 0#8) ^^^ (if k = i then (if i < c then a i c else 0#8) else 0#8) := by
    refine sum_congr fun k hk => ?_
    show mulG (a i k) (if k = c then 1#8 else if k < c then a k c else 0#8) = _
    by_cases e : k = c
    · subst e
      rw [if_pos rfl, if_pos rfl, mul_one]
      by_cases e2 : k = i
      · subst e2
        rw [if_pos rfl, if_neg (Nat.lt_irrefl _), BitVec.xor_zero]
      · rw [if_neg e2, BitVec.xor_zero]
    · rw [if_neg e, if_neg e, BitVec.zero_xor]
      by_cases e3 : k < c
      · rw [if_pos e3, hu i hi k e3]
        unfold unitF
        by_cases e2 : k = i
        · subst e2
          rw [if_pos rfl, if_pos rfl, if_pos e3, one_mul]
        · rw [if_neg (fun x => e2 x.symm), if_neg e2, zero_mul]
      · rw [if_neg e3, mul_zero]
        by_cases e2 : k = i
        · subst e2
          rw [if_pos rfl, if_neg e3]
        · rw [if_neg e2]
  rw [h1, sum_xor, sum_one hc fun k _ hne => by rw [if_neg hne], sum_one hi fun k _ hne => by rw [if_neg hne], if_pos rfl, if_pos rfl]
  by_cases e : i < c
  · rw [if_pos e, BitVec.xor_self]
  · rw [if_neg e, hz i (by omega) hi, BitVec.xor_zero]
end
/-- What has an inverse takes nothing but noughts to noughts. -/
theorem left_zero {n : Nat} {M X : MtF} (h : ∀ i, i < n → ∀ j, j < n → prodF n X M i j = unitF i j) {x : Nat → G8} (hx : ∀ i, i < n → dotN n (M i) x = 0#8) : ∀ i, i < n → x i = 0#8 := fun i hi => by
  have h1 := dot_dot n n (X i) M x
  have h2 : dotN n (fun j => dotN n (X i) fun k => M k j) x = dotN n (unitF i) x := dot_congr (fun l hl => h i hi l hl) fun _ _ => rfl
  have h3 : dotN n (X i) (fun k => dotN n (M k) x) = 0#8 := by
    have h4 : dotN n (X i) (fun k => dotN n (M k) x) = dotN n (X i) fun _ => 0#8 := dot_congr (fun _ _ => rfl) fun k hk => hx k hk
    rw [h4]
    unfold dotN
    rw [sum_congr (g := fun _ => 0#8) fun k _ => mul_zero _, sum_nil]
  rw [h2, dot_unit hi, h3] at h1
  exact h1
end Go.Proofs.Ytjojimmfjmchcaa
