/-
  Plain facts on numbers of seven bits a byte and on frames, told on lists of bytes: what is written is read back, all of it; what is read is written just so; a front of a number is too short.
-/
import Derived.Test.YtjhafhfneedmjaaDoorCrc
namespace Go.Proofs.YtjhafhfneedmjaaDoor

def num (n : Nat) : List UInt8 := if n < 128 then [UInt8.ofNat n] else UInt8.ofNat (n % 128 + 128) :: num (n / 128)
termination_by n
decreasing_by omega

theorem num_lo (n : Nat) (h : n < 128) : num n = [UInt8.ofNat n] := by rw [num, if_pos h]
theorem num_hi (n : Nat) (h : ¬ n < 128) : num n = UInt8.ofNat (n % 128 + 128) :: num (n / 128) := by rw [num, if_neg h]
theorem toNat_of (n : Nat) (h : n < 256) : (UInt8.ofNat n).toNat = n := by
  rw [UInt8.toNat_ofNat']
  exact Nat.mod_eq_of_lt h
theorem of_toNat (x : UInt8) : UInt8.ofNat x.toNat = x := UInt8.ofNat_toNat

/-- What stands at the front: the number, how many bytes it has, the error (0: none). 'f' rounds are left behind 'i'. -/
def rdF : Nat → Nat → Nat → List UInt8 → Nat × Nat × Nat
  | 0, _, _, _ => (0, 0, 12)
  | _ + 1, _, _, [] => (0, 0, 11)
  | f + 1, i, v, c :: r =>
    if c.toNat < 128 then
      if (0 < i ∧ c.toNat = 0) ∨ (f = 0 ∧ 1 < c.toNat) then (0, 0, 12) else (v + c.toNat * 2 ^ (7 * i), i + 1, 0)
    else rdF f (i + 1) (v + (c.toNat - 128) * 2 ^ (7 * i)) r
def rdNum (l : List UInt8) : Nat × Nat × Nat := rdF 10 0 0 l

theorem pow_step (i : Nat) : 2 ^ (7 * (i + 1)) = 128 * 2 ^ (7 * i) := by
  rw [show 7 * (i + 1) = 7 * i + 7 from by omega, Nat.pow_add, Nat.mul_comm]

/-- WHAT IS WRITTEN IS READ. -/
theorem rdF_num (f : Nat) : ∀ (n i v : Nat) (b : List UInt8), n < 2 ^ (7 * f + 1) → (0 < i → 0 < n) → rdF (f + 1) i v (num n ++ b) = (v + n * 2 ^ (7 * i), i + (num n).length, 0) := by
  induction f with
  | zero =>
    intro n i v b hn hi
    have hn2 : n < 2 := by simpa using hn
    rw [num_lo n (by omega)]
    have ht : (UInt8.ofNat n).toNat = n := toNat_of n (by omega)
    simp only [List.cons_append, List.nil_append, rdF, ht, List.length_cons, List.length_nil]
    rw [if_pos (by omega), if_neg (by omega)]
  | succ f ih =>
    intro n i v b hn hi
    by_cases h : n < 128
    · rw [num_lo n h]
      have ht : (UInt8.ofNat n).toNat = n := toNat_of n (by omega)
      simp only [List.cons_append, List.nil_append, rdF, ht, List.length_cons, List.length_nil]
      rw [if_pos h, if_neg (by omega)]
    · rw [num_hi n h]
      have ht : (UInt8.ofNat (n % 128 + 128)).toNat = n % 128 + 128 := toNat_of _ (by omega)
      rw [List.cons_append, rdF, ht, if_neg (by omega), ih (n / 128) (i + 1) _ b (by
        have e : 2 ^ (7 * (f + 1) + 1) = 128 * 2 ^ (7 * f + 1) := by rw [show 7 * (f + 1) + 1 = 7 * f + 1 + 7 from by omega, Nat.pow_add, Nat.mul_comm]
        rw [e] at hn
        omega) (by omega)]
      rw [pow_step, List.length_cons]
      congr 1
      · have e1 : n % 128 + 128 - 128 = n % 128 := by omega
        have e2 : n = n % 128 + 128 * (n / 128) := (Nat.mod_add_div n 128).symm
        rw [e1]
        have e3 : n / 128 * (128 * 2 ^ (7 * i)) = 128 * (n / 128) * 2 ^ (7 * i) := by
          rw [← Nat.mul_assoc, Nat.mul_comm (n / 128) 128]
        rw [e3, Nat.add_assoc, ← Nat.add_mul, ← e2]
      · congr 1
        omega
theorem rdNum_num (n : Nat) (b : List UInt8) (hn : n < 18446744073709551616) : rdNum (num n ++ b) = (n, (num n).length, 0) := by
  have h := rdF_num 9 n 0 0 b (by simpa using hn) (by omega)
  simpa [rdNum] using h

theorem num_len_pos (n : Nat) : 1 ≤ (num n).length := by
  rw [num]
  split <;> simp
theorem num_len (f : Nat) : ∀ n, n < 2 ^ (7 * (f + 1)) → (num n).length ≤ f + 1 := by
  induction f with
  | zero =>
    intro n h
    rw [num_lo n (by simpa using h)]
    simp
  | succ f ih =>
    intro n h
    by_cases h1 : n < 128
    · rw [num_lo n h1]; simp
    · rw [num_hi n h1, List.length_cons]
      have := ih (n / 128) (by
        rw [pow_step] at h
        omega)
      omega
theorem num_len10 (n : Nat) (h : n < 18446744073709551616) : (num n).length ≤ 10 :=
  num_len 9 n (Nat.lt_of_lt_of_le h (by decide))
theorem num_mono (f : Nat) : ∀ a b, a ≤ b → b < 2 ^ (7 * (f + 1)) → (num a).length ≤ (num b).length := by
  induction f with
  | zero =>
    intro a b hab hb
    have hb' : b < 128 := by simpa using hb
    rw [num_lo b hb', num_lo a (by omega)]
    exact Nat.le_refl _
  | succ f ih =>
    intro a b hab hb
    by_cases h1 : a < 128
    · rw [num_lo a h1]
      exact num_len_pos b
    · rw [num_hi a h1, num_hi b (by omega), List.length_cons, List.length_cons]
      have := ih (a / 128) (b / 128) (by omega) (by
        rw [pow_step] at hb
        omega)
      omega
theorem num_mono64 (a b : Nat) (hab : a ≤ b) (hb : b < 18446744073709551616) : (num a).length ≤ (num b).length :=
  num_mono 9 a b hab (Nat.lt_of_lt_of_le hb (by decide))
/-- NO NUMBER's BYTES BEGIN ANOTHER ONE's. -/
theorem num_apart (a b : Nat) (ha : a < 18446744073709551616) (hb : b < 18446744073709551616) (h : num a = (num b).take (num a).length) : a = b := by
  have e : num b = num a ++ (num b).drop (num a).length := by
    have := List.take_append_drop (num a).length (num b)
    rw [← h] at this
    exact this.symm
  have h1 := rdNum_num a ((num b).drop (num a).length) ha
  rw [← e] at h1
  have h2 := rdNum_num b [] hb
  rw [List.append_nil, h1] at h2
  injection h2

/-- WHAT IS READ IS WRITTEN JUST SO. -/
theorem rdF_back (f : Nat) : ∀ (i v : Nat) (l : List UInt8) (w k : Nat), rdF (f + 1) i v l = (w, k, 0) →
    ∃ n, num n = l.take (k - i) ∧ w = v + n * 2 ^ (7 * i) ∧ i + 1 ≤ k ∧ k ≤ i + l.length ∧ n < 2 ^ (7 * f + 1) ∧ (0 < i → 0 < n) := by
  induction f with
  | zero =>
    intro i v l w k h
    cases l with
    | nil => simp [rdF] at h
    | cons c r =>
      rw [rdF] at h
      split at h
      · rename_i h1
        split at h
        · simp at h
        · rename_i h2
          simp only [Prod.mk.injEq] at h
          obtain ⟨rfl, rfl, _⟩ := h
          refine ⟨c.toNat, ?_, rfl, Nat.le_refl _, by simp, by simp; omega, by omega⟩
          rw [num_lo _ h1, of_toNat, show i + 1 - i = 1 from by omega]
          simp
      · simp [rdF] at h
  | succ f ih =>
    intro i v l w k h
    cases l with
    | nil => simp [rdF] at h
    | cons c r =>
      rw [rdF] at h
      split at h
      · rename_i h1
        split at h
        · simp at h
        · rename_i h2
          simp only [Prod.mk.injEq] at h
          obtain ⟨rfl, rfl, _⟩ := h
          refine ⟨c.toNat, ?_, rfl, Nat.le_refl _, by simp, ?_, by omega⟩
          · rw [num_lo _ h1, of_toNat, show i + 1 - i = 1 from by omega]
            simp
          · exact Nat.lt_of_lt_of_le h1 (Nat.pow_le_pow_right (n := 2) (i := 7) (by decide) (by omega))
      · rename_i h1
        obtain ⟨n, hn, hw, hk1, hk2, hlt, hpos⟩ := ih _ _ _ _ _ h
        have hc := c.toNat_lt
        have hp := hpos (by omega)
        refine ⟨n * 128 + (c.toNat - 128), ?_, ?_, by omega, by simp; omega, ?_, by omega⟩
        · rw [num_hi _ (by omega), show (n * 128 + (c.toNat - 128)) / 128 = n from by omega, show (n * 128 + (c.toNat - 128)) % 128 + 128 = c.toNat from by omega, of_toNat, hn,
            show k - i = k - (i + 1) + 1 from by omega, List.take_succ_cons]
        · rw [hw, pow_step, Nat.add_mul]
          have e : n * (128 * 2 ^ (7 * i)) = n * 128 * 2 ^ (7 * i) := (Nat.mul_assoc _ _ _).symm
          omega
        · have e : 2 ^ (7 * (f + 1) + 1) = 128 * 2 ^ (7 * f + 1) := by rw [show 7 * (f + 1) + 1 = 7 * f + 1 + 7 from by omega, Nat.pow_add, Nat.mul_comm]
          omega
theorem rdNum_back (l : List UInt8) (w k : Nat) (h : rdNum l = (w, k, 0)) : num w = l.take k ∧ 1 ≤ k ∧ k ≤ l.length ∧ w < 18446744073709551616 := by
  obtain ⟨n, hn, hw, hk, hk2, hlt, _⟩ := rdF_back 9 0 0 l w k h
  have e : w = n := by simpa using hw
  subst e
  exact ⟨by simpa using hn, by omega, by omega, by simpa using hlt⟩

/-- The error is one of three; beside it number and length are 0; the length is within the bytes. -/
theorem rdF_form (f : Nat) : ∀ (i v : Nat) (l : List UInt8), ((rdF f i v l).2.2 = 0 ∧ (rdF f i v l).2.1 ≤ i + l.length) ∨ rdF f i v l = (0, 0, 11) ∨ rdF f i v l = (0, 0, 12) := by
  induction f with
  | zero => intro i v l; exact .inr (.inr rfl)
  | succ f ih =>
    intro i v l
    cases l with
    | nil => exact .inr (.inl rfl)
    | cons c r =>
      rw [rdF]
      split
      · split
        · exact .inr (.inr rfl)
        · exact .inl ⟨rfl, by simp⟩
      · rcases ih (i + 1) (v + (c.toNat - 128) * 2 ^ (7 * i)) r with h | h | h
        · exact .inl ⟨h.1, by have := h.2; simp only [List.length_cons]; omega⟩
        · exact .inr (.inl h)
        · exact .inr (.inr h)
theorem rdNum_form (l : List UInt8) : (∃ v n, rdNum l = (v, n, 0) ∧ 1 ≤ n ∧ n ≤ l.length ∧ n ≤ 10 ∧ v < 18446744073709551616) ∨ rdNum l = (0, 0, 11) ∨ rdNum l = (0, 0, 12) := by
  rcases rdF_form 10 0 0 l with h | h | h
  · obtain ⟨v, n, e, hr⟩ : ∃ v n e, rdNum l = (v, n, e) := ⟨_, _, _, rfl⟩
    have he : e = 0 := by
      have := h.1
      rw [show rdF 10 0 0 l = rdNum l from rfl, hr] at this
      exact this
    subst he
    obtain ⟨h1, h2, h3, h4⟩ := rdNum_back l v n hr
    have h5 := num_len10 v h4
    rw [h1, List.length_take] at h5
    exact .inl ⟨v, n, hr, h2, h3, by omega, h4⟩
  · exact .inr (.inl h)
  · exact .inr (.inr h)

/-- A FRONT OF A NUMBER IS TOO SHORT. -/
theorem rdF_front (f : Nat) : ∀ (n i v j : Nat), n < 2 ^ (7 * f + 1) → j < (num n).length → rdF (f + 1) i v ((num n).take j) = (0, 0, 11) := by
  induction f with
  | zero =>
    intro n i v j hn hj
    rw [num_lo n (by simp at hn; omega)] at hj ⊢
    have : j = 0 := by simpa using hj
    subst this
    rfl
  | succ f ih =>
    intro n i v j hn hj
    cases j with
    | zero => rfl
    | succ j =>
      by_cases h : n < 128
      · rw [num_lo n h] at hj
        simp at hj
      · rw [num_hi n h] at hj ⊢
        have ht : (UInt8.ofNat (n % 128 + 128)).toNat = n % 128 + 128 := toNat_of _ (by omega)
        rw [List.take_succ_cons, rdF, ht, if_neg (by omega)]
        apply ih
        · have e : 2 ^ (7 * (f + 1) + 1) = 128 * 2 ^ (7 * f + 1) := by rw [show 7 * (f + 1) + 1 = 7 * f + 1 + 7 from by omega, Nat.pow_add, Nat.mul_comm]
          rw [e] at hn
          omega
        · simpa using hj
theorem rdNum_front (n j : Nat) (hn : n < 18446744073709551616) (hj : j < (num n).length) : rdNum ((num n).take j) = (0, 0, 11) :=
  rdF_front 9 n 0 0 j (by simpa using hn) hj
end Go.Proofs.YtjhafhfneedmjaaDoor
