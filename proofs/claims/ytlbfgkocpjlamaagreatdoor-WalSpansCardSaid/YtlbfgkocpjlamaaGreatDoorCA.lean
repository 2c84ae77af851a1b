import Derived.Laws.BitsAllLaws

/-
  Plain facts on the CRC-32C, told on natural numbers and lists of bytes: the two tables of sixteen words do what eight steps of one bit do; a remainder is known by what it becomes; so one bit that is another one turns the sum.
-/
namespace Go.Proofs.YtlbfgkocpjlamaaGreatDoor

def stp (z : Nat) : Nat := if z % 2 = 1 then z / 2 ^^^ 2197175160 else z / 2
def stps : Nat → Nat → Nat
  | 0, z => z
  | k + 1, z => stps k (stp z)
def crcByte (c : Nat) (x : UInt8) : Nat := stps 8 (c ^^^ x.toNat)
def crcL (c : Nat) (l : List UInt8) : Nat := l.foldl crcByte c
def crc (l : List UInt8) : Nat := crcL 4294967295 l ^^^ 4294967295

def lowT : List Nat := [0, 4067132163, 3778769143, 324072436, 3348797215, 904991772, 648144872, 3570033899, 2329499855, 2024987596, 1809983544, 2575936315, 1296289744, 3207089363, 2893594407, 1578318884]
def highT : List Nat := [0, 274646895, 549293790, 820201905, 1098587580, 1361435347, 1640403810, 1905808397, 2197175160, 2460548119, 2722870694, 2987750089, 3280807620, 3553878443, 3811616794, 4084100981]

theorem xor_mod2 (a b : Nat) : (a ^^^ b) % 2 = (a % 2 + b % 2) % 2 := by
  have h : (a ^^^ b) % 2 ^ 1 = a % 2 ^ 1 ^^^ b % 2 ^ 1 := Nat.xor_mod_two_pow
  simp only [Nat.pow_one] at h
  rw [h]
  rcases Nat.mod_two_eq_zero_or_one a with ha | ha <;> rcases Nat.mod_two_eq_zero_or_one b with hb | hb <;> rw [ha, hb] <;> decide
theorem xor_div2 (a b : Nat) : (a ^^^ b) / 2 = a / 2 ^^^ b / 2 := by
  have h : (a ^^^ b) / 2 ^ 1 = a / 2 ^ 1 ^^^ b / 2 ^ 1 := Nat.xor_div_two_pow
  simpa only [Nat.pow_one] using h
theorem xor_swap (a b p : Nat) : a ^^^ b ^^^ p = a ^^^ p ^^^ b := by
  rw [Nat.xor_assoc, Nat.xor_comm b p, ← Nat.xor_assoc]
theorem xor_undo (a p : Nat) : a ^^^ p ^^^ p = a := by
  rw [Nat.xor_assoc, Nat.xor_self, Nat.xor_zero]
theorem xor_inj (a b p : Nat) (h : a ^^^ p = b ^^^ p) : a = b := by
  rw [← xor_undo a p, h, xor_undo]
theorem xor_lt32 (a b : Nat) (ha : a < 4294967296) (hb : b < 4294967296) : a ^^^ b < 4294967296 := Nat.xor_lt_two_pow (n := 32) ha hb

theorem stp_xor (a b : Nat) : stp (a ^^^ b) = stp a ^^^ stp b := by
  unfold stp
  rw [xor_mod2, xor_div2]
  rcases Nat.mod_two_eq_zero_or_one a with ha | ha <;> rcases Nat.mod_two_eq_zero_or_one b with hb | hb <;> simp only [ha, hb] <;> simp
  · rw [Nat.xor_assoc]
  · rw [xor_swap]
  · rw [xor_swap (a / 2) 2197175160, ← Nat.xor_assoc, xor_undo]
theorem stps_xor (k : Nat) : ∀ a b, stps k (a ^^^ b) = stps k a ^^^ stps k b := by
  induction k with
  | zero => intro a b; rfl
  | succ k ih => intro a b; simp only [stps, stp_xor, ih]
theorem stps_mul (k : Nat) : ∀ m, stps k (m * 2 ^ k) = m := by
  induction k with
  | zero => intro m; simp [stps]
  | succ k ih =>
    intro m
    have e : m * 2 ^ (k + 1) = m * 2 ^ k * 2 := by rw [Nat.pow_succ, Nat.mul_assoc]
    have h : stp (m * 2 ^ (k + 1)) = m * 2 ^ k := by
      unfold stp
      rw [e, if_neg (by omega)]
      omega
    show stps k (stp (m * 2 ^ (k + 1))) = m
    rw [h, ih]
theorem split256 (z : Nat) : z = z / 256 * 2 ^ 8 ^^^ z % 256 := by
  apply Nat.eq_of_testBit_eq
  intro i
  have h8 : (z % 2 ^ 8).testBit i = (decide (i < 8) && z.testBit i) := Nat.testBit_mod_two_pow _ _ _
  have hd : z / 256 = z / 2 ^ 8 := rfl
  have hm : z % 256 = z % 2 ^ 8 := rfl
  rw [Nat.testBit_xor, hm, h8, hd, Nat.testBit_mul_two_pow, Nat.testBit_div_two_pow]
  by_cases h : i < 8
  · simp [h, show ¬ 8 ≤ i from by omega]
  · have : i - 8 + 8 = i := by omega
    simp [h, show 8 ≤ i from by omega, this]

set_option maxRecDepth 100000 in
theorem tab256 : ∀ a, a < 256 → stps 8 a = lowT.getD (a % 16) 0 ^^^ highT.getD (a / 16) 0 := by decide +kernel

theorem table (z : Nat) : stps 8 z = lowT.getD (z % 256 % 16) 0 ^^^ highT.getD (z % 256 / 16) 0 ^^^ z / 256 := by
  have h : stps 8 z = stps 8 (z / 256 * 2 ^ 8 ^^^ z % 256) := congrArg (stps 8) (split256 z)
  rw [h, stps_xor, stps_mul, tab256 (z % 256) (Nat.mod_lt _ (by decide)), Nat.xor_comm]

/-- A BYTE BY THE TABLES: what the program reckons. -/
theorem byTable (c : Nat) (x : UInt8) : crcByte c x = lowT.getD ((c % 256 ^^^ x.toNat) % 16) 0 ^^^ highT.getD ((c % 256 ^^^ x.toNat) / 16) 0 ^^^ c / 256 := by
  have hx : x.toNat < 256 := x.toNat_lt
  have hm : (c ^^^ x.toNat) % 256 = c % 256 ^^^ x.toNat := by
    have h : (c ^^^ x.toNat) % 2 ^ 8 = c % 2 ^ 8 ^^^ x.toNat % 2 ^ 8 := Nat.xor_mod_two_pow
    have e : x.toNat % 2 ^ 8 = x.toNat := Nat.mod_eq_of_lt hx
    rw [e] at h
    exact h
  have hd : (c ^^^ x.toNat) / 256 = c / 256 := by
    have h : (c ^^^ x.toNat) / 2 ^ 8 = c / 2 ^ 8 ^^^ x.toNat / 2 ^ 8 := Nat.xor_div_two_pow
    have e : x.toNat / 2 ^ 8 = 0 := Nat.div_eq_of_lt hx
    rw [e, Nat.xor_zero] at h
    exact h
  unfold crcByte
  rw [table, hm, hd]

theorem stp_lt (z : Nat) (h : z < 4294967296) : stp z < 4294967296 := by
  unfold stp
  split
  · exact xor_lt32 _ _ (by omega) (by decide)
  · omega
theorem stps_lt (k : Nat) : ∀ z, z < 4294967296 → stps k z < 4294967296 := by
  induction k with
  | zero => intro z h; exact h
  | succ k ih => intro z h; exact ih _ (stp_lt z h)
theorem stps_succ (k : Nat) : ∀ z, stps (k + 1) z = stp (stps k z) := by
  induction k with
  | zero => intro z; rfl
  | succ k ih => intro z; show stps (k + 1) (stp z) = _; rw [ih]; rfl
theorem crcByte_lt (c : Nat) (x : UInt8) (h : c < 4294967296) : crcByte c x < 4294967296 :=
  stps_lt 8 _ (xor_lt32 _ _ h (by have := x.toNat_lt; omega))
theorem crcL_lt (l : List UInt8) : ∀ c, c < 4294967296 → crcL c l < 4294967296 := by
  induction l with
  | nil => intro c h; exact h
  | cons x r ih => intro c h; exact ih _ (crcByte_lt c x h)
theorem crc_lt (l : List UInt8) : crc l < 4294967296 := xor_lt32 _ _ (crcL_lt l _ (by decide)) (by decide)
theorem crcL_append (c : Nat) (a b : List UInt8) : crcL c (a ++ b) = crcL (crcL c a) b := by simp [crcL]
theorem crcL_snoc (c : Nat) (a : List UInt8) (x : UInt8) : crcL c (a ++ [x]) = crcByte (crcL c a) x := by simp [crcL]

theorem stp_inj (a b : Nat) (ha : a < 4294967296) (hb : b < 4294967296) (h : stp a = stp b) : a = b := by
  have top : ∀ z, z < 4294967296 → stp z / 2 ^ 31 = z % 2 := by
    intro z hz
    unfold stp
    split
    · rename_i h1
      have h2 : (z / 2 ^^^ 2197175160) / 2 ^ 31 = z / 2 / 2 ^ 31 ^^^ 2197175160 / 2 ^ 31 := Nat.xor_div_two_pow
      have h3 : z / 2 / 2 ^ 31 = 0 := Nat.div_eq_of_lt (by omega)
      rw [h2, h3, h1]
      decide
    · have h3 : z / 2 / 2 ^ 31 = 0 := Nat.div_eq_of_lt (by omega)
      rw [h3]
      omega
  have hp : a % 2 = b % 2 := by rw [← top a ha, ← top b hb, h]
  have hh : a / 2 = b / 2 := by
    unfold stp at h
    rcases Nat.mod_two_eq_zero_or_one b with h0 | h0
    · rw [hp, h0] at h
      simpa using h
    · rw [hp, h0] at h
      simp only [if_true] at h
      exact xor_inj _ _ _ h
  omega
theorem stps_inj (k : Nat) : ∀ a b, a < 4294967296 → b < 4294967296 → stps k a = stps k b → a = b := by
  induction k with
  | zero => intro a b _ _ h; exact h
  | succ k ih => intro a b ha hb h; exact stp_inj a b ha hb (ih _ _ (stp_lt a ha) (stp_lt b hb) h)
theorem crcByte_inj (c d : Nat) (x y : UInt8) (hc : c < 4294967296) (hd : d < 4294967296) (h : crcByte c x = crcByte d y) : c ^^^ x.toNat = d ^^^ y.toNat :=
  stps_inj 8 _ _ (xor_lt32 _ _ hc (by have := x.toNat_lt; omega)) (xor_lt32 _ _ hd (by have := y.toNat_lt; omega)) h
theorem crcL_inj (l : List UInt8) : ∀ c d, c < 4294967296 → d < 4294967296 → crcL c l = crcL d l → c = d := by
  induction l with
  | nil => intro c d _ _ h; exact h
  | cons x r ih =>
    intro c d hc hd h
    have h1 : crcByte c x = crcByte d x := ih _ _ (crcByte_lt c x hc) (crcByte_lt d x hd) h
    exact xor_inj _ _ _ (crcByte_inj c d x x hc hd h1)
/-- ONE BYTE THAT IS ANOTHER ONE TURNS THE SUM. -/
theorem crc_other (p s : List UInt8) (x y : UInt8) (hxy : x ≠ y) : crc (p ++ x :: s) ≠ crc (p ++ y :: s) := by
  intro h
  have h1 := xor_inj _ _ _ h
  rw [crcL_append, crcL_append] at h1
  have hc := crcL_lt p 4294967295 (by decide)
  have h2 : crcByte (crcL 4294967295 p) x = crcByte (crcL 4294967295 p) y := crcL_inj s _ _ (crcByte_lt _ _ hc) (crcByte_lt _ _ hc) h1
  have h3 := crcByte_inj _ _ x y hc hc h2
  rw [Nat.xor_comm, Nat.xor_comm (crcL 4294967295 p)] at h3
  exact hxy (UInt8.toNat_inj.1 (xor_inj _ _ _ h3))
end Go.Proofs.YtlbfgkocpjlamaaGreatDoor

/-
  Plain facts on numbers of seven bits a byte and on frames, told on lists of bytes: what is written is read back, all of it; what is read is written just so; a front of a number is too short.
-/
namespace Go.Proofs.YtlbfgkocpjlamaaGreatDoor

def num (n : Nat) : List UInt8 := if n < 128 then [UInt8.ofNat n] else UInt8.ofNat (n % 128 + 128) :: num (n / 128)
termination_by n
decreasing_by omega

theorem num_lo (n : Nat) (h : n < 128) : num n = [UInt8.ofNat n] := by rw [num, if_pos h]
theorem num_hi (n : Nat) (h : ¬ n < 128) : num n = UInt8.ofNat (n % 128 + 128) :: num (n / 128) := by rw [num, if_neg h]
theorem toNat_ofC (n : Nat) (h : n < 256) : (UInt8.ofNat n).toNat = n := by
  rw [UInt8.toNat_ofNat']
  exact Nat.mod_eq_of_lt h
theorem of_toNat (x : UInt8) : UInt8.ofNat x.toNat = x := UInt8.ofNat_toNat

/-- What stands at the front: the number, how many bytes it has, the error (0: none). 'f' rounds are left behind 'i'. -/
def rdF : Nat → Nat → Nat → List UInt8 → Nat × Nat × Nat
  | 0, _, _, _ => (0, 0, 12)
  | _ + 1, _, _, [] => (0, 0, 11)
  | f + 1, i, v, c :: r =>
    if c.toNat < 128 then
      if (0 < i ∧ c.toNat = 0) ∨ (f = 0 ∧ 1 < c.toNat) then (0, 0, 12) else (v + c.toNat * 2 ^ (7 * i), i + 1, 0)
    else rdF f (i + 1) (v + (c.toNat - 128) * 2 ^ (7 * i)) r
def rdNum (l : List UInt8) : Nat × Nat × Nat := rdF 10 0 0 l

theorem pow_step (i : Nat) : 2 ^ (7 * (i + 1)) = 128 * 2 ^ (7 * i) := by
  rw [show 7 * (i + 1) = 7 * i + 7 from by omega, Nat.pow_add, Nat.mul_comm]

/-- WHAT IS WRITTEN IS READ. -/
theorem rdF_num (f : Nat) : ∀ (n i v : Nat) (b : List UInt8), n < 2 ^ (7 * f + 1) → (0 < i → 0 < n) → rdF (f + 1) i v (num n ++ b) = (v + n * 2 ^ (7 * i), i + (num n).length, 0) := by
  induction f with
  | zero =>
    intro n i v b hn hi
    have hn2 : n < 2 := by simpa using hn
    rw [num_lo n (by omega)]
    have ht : (UInt8.ofNat n).toNat = n := toNat_ofC n (by omega)
    simp only [List.cons_append, List.nil_append, rdF, ht, List.length_cons, List.length_nil]
    rw [if_pos (by omega), if_neg (by omega)]
  | succ f ih =>
    intro n i v b hn hi
    by_cases h : n < 128
    · rw [num_lo n h]
      have ht : (UInt8.ofNat n).toNat = n := toNat_ofC n (by omega)
      simp only [List.cons_append, List.nil_append, rdF, ht, List.length_cons, List.length_nil]
      rw [if_pos h, if_neg (by omega)]
    · rw [num_hi n h]
      have ht : (UInt8.ofNat (n % 128 + 128)).toNat = n % 128 + 128 := toNat_ofC _ (by omega)
      rw [List.cons_append, rdF, ht, if_neg (by omega), ih (n / 128) (i + 1) _ b (by
        have e : 2 ^ (7 * (f + 1) + 1) = 128 * 2 ^ (7 * f + 1) := by rw [show 7 * (f + 1) + 1 = 7 * f + 1 + 7 from by omega, Nat.pow_add, Nat.mul_comm]
        rw [e] at hn
        omega) (by omega)]
      rw [pow_step, List.length_cons]
      congr 1
      · have e1 : n % 128 + 128 - 128 = n % 128 := by omega
        have e2 : n = n % 128 + 128 * (n / 128) := (Nat.mod_add_div n 128).symm
        rw [e1]
        have e3 : n / 128 * (128 * 2 ^ (7 * i)) = 128 * (n / 128) * 2 ^ (7 * i) := by
          rw [← Nat.mul_assoc, Nat.mul_comm (n / 128) 128]
        rw [e3, Nat.add_assoc, ← Nat.add_mul, ← e2]
      · congr 1
        omega
theorem rdNum_num (n : Nat) (b : List UInt8) (hn : n < 18446744073709551616) : rdNum (num n ++ b) = (n, (num n).length, 0) := by
  have h := rdF_num 9 n 0 0 b (by simpa using hn) (by omega)
  simpa [rdNum] using h

theorem num_len_pos (n : Nat) : 1 ≤ (num n).length := by
  rw [num]
  split <;> simp
theorem num_len (f : Nat) : ∀ n, n < 2 ^ (7 * (f + 1)) → (num n).length ≤ f + 1 := by
  induction f with
  | zero =>
    intro n h
    rw [num_lo n (by simpa using h)]
    simp
  | succ f ih =>
    intro n h
    by_cases h1 : n < 128
    · rw [num_lo n h1]; simp
    · rw [num_hi n h1, List.length_cons]
      have := ih (n / 128) (by
        rw [pow_step] at h
        omega)
      omega
theorem num_len10 (n : Nat) (h : n < 18446744073709551616) : (num n).length ≤ 10 :=
  num_len 9 n (Nat.lt_of_lt_of_le h (by decide))
theorem num_mono (f : Nat) : ∀ a b, a ≤ b → b < 2 ^ (7 * (f + 1)) → (num a).length ≤ (num b).length := by
  induction f with
  | zero =>
    intro a b hab hb
    have hb' : b < 128 := by simpa using hb
    rw [num_lo b hb', num_lo a (by omega)]
    exact Nat.le_refl _
  | succ f ih =>
    intro a b hab hb
    by_cases h1 : a < 128
    · rw [num_lo a h1]
      exact num_len_pos b
    · rw [num_hi a h1, num_hi b (by omega), List.length_cons, List.length_cons]
      have := ih (a / 128) (b / 128) (by omega) (by
        rw [pow_step] at hb
        omega)
      omega
theorem num_mono64 (a b : Nat) (hab : a ≤ b) (hb : b < 18446744073709551616) : (num a).length ≤ (num b).length :=
  num_mono 9 a b hab (Nat.lt_of_lt_of_le hb (by decide))
/-- NO NUMBER's BYTES BEGIN ANOTHER ONE's. -/
theorem num_apart (a b : Nat) (ha : a < 18446744073709551616) (hb : b < 18446744073709551616) (h : num a = (num b).take (num a).length) : a = b := by
  have e : num b = num a ++ (num b).drop (num a).length := by
    have := List.take_append_drop (num a).length (num b)
    rw [← h] at this
    exact this.symm
  have h1 := rdNum_num a ((num b).drop (num a).length) ha
  rw [← e] at h1
  have h2 := rdNum_num b [] hb
  rw [List.append_nil, h1] at h2
  injection h2

/-- WHAT IS READ IS WRITTEN JUST SO. -/
theorem rdF_back (f : Nat) : ∀ (i v : Nat) (l : List UInt8) (w k : Nat), rdF (f + 1) i v l = (w, k, 0) →
    ∃ n, num n = l.take (k - i) ∧ w = v + n * 2 ^ (7 * i) ∧ i + 1 ≤ k ∧ k ≤ i + l.length ∧ n < 2 ^ (7 * f + 1) ∧ (0 < i → 0 < n) := by
  induction f with
  | zero =>
    intro i v l w k h
    cases l with
    | nil => simp [rdF] at h
    | cons c r =>
      rw [rdF] at h
      split at h
      · rename_i h1
        split at h
        · simp at h
        · rename_i h2
          simp only [Prod.mk.injEq] at h
          obtain ⟨rfl, rfl, _⟩ := h
          refine ⟨c.toNat, ?_, rfl, Nat.le_refl _, by simp, by simp; omega, by omega⟩
          rw [num_lo _ h1, of_toNat, show i + 1 - i = 1 from by omega]
          simp
      · simp [rdF] at h
  | succ f ih =>
    intro i v l w k h
    cases l with
    | nil => simp [rdF] at h
    | cons c r =>
      rw [rdF] at h
      split at h
      · rename_i h1
        split at h
        · simp at h
        · rename_i h2
          simp only [Prod.mk.injEq] at h
          obtain ⟨rfl, rfl, _⟩ := h
          refine ⟨c.toNat, ?_, rfl, Nat.le_refl _, by simp, ?_, by omega⟩
          · rw [num_lo _ h1, of_toNat, show i + 1 - i = 1 from by omega]
            simp
          · exact Nat.lt_of_lt_of_le h1 (Nat.pow_le_pow_right (n := 2) (i := 7) (by decide) (by omega))
      · rename_i h1
        obtain ⟨n, hn, hw, hk1, hk2, hlt, hpos⟩ := ih _ _ _ _ _ h
        have hc := c.toNat_lt
        have hp := hpos (by omega)
        refine ⟨n * 128 + (c.toNat - 128), ?_, ?_, by omega, by simp; omega, ?_, by omega⟩
        · rw [num_hi _ (by omega), show (n * 128 + (c.toNat - 128)) / 128 = n from by omega, show (n * 128 + (c.toNat - 128)) % 128 + 128 = c.toNat from by omega, of_toNat, hn,
            show k - i = k - (i + 1) + 1 from by omega, List.take_succ_cons]
        · rw [hw, pow_step, Nat.add_mul]
          have e : n * (128 * 2 ^ (7 * i)) = n * 128 * 2 ^ (7 * i) := (Nat.mul_assoc _ _ _).symm
          omega
        · have e : 2 ^ (7 * (f + 1) + 1) = 128 * 2 ^ (7 * f + 1) := by rw [show 7 * (f + 1) + 1 = 7 * f + 1 + 7 from by omega, Nat.pow_add, Nat.mul_comm]
          omega
theorem rdNum_back (l : List UInt8) (w k : Nat) (h : rdNum l = (w, k, 0)) : num w = l.take k ∧ 1 ≤ k ∧ k ≤ l.length ∧ w < 18446744073709551616 := by
  obtain ⟨n, hn, hw, hk, hk2, hlt, _⟩ := rdF_back 9 0 0 l w k h
  have e : w = n := by simpa using hw
  subst e
  exact ⟨by simpa using hn, by omega, by omega, by simpa using hlt⟩

/-- The error is one of three; beside it number and length are 0; the length is within the bytes. -/
theorem rdF_form (f : Nat) : ∀ (i v : Nat) (l : List UInt8), ((rdF f i v l).2.2 = 0 ∧ (rdF f i v l).2.1 ≤ i + l.length) ∨ rdF f i v l = (0, 0, 11) ∨ rdF f i v l = (0, 0, 12) := by
  induction f with
  | zero => intro i v l; exact .inr (.inr rfl)
  | succ f ih =>
    intro i v l
    cases l with
    | nil => exact .inr (.inl rfl)
    | cons c r =>
      rw [rdF]
      split
      · split
        · exact .inr (.inr rfl)
        · exact .inl ⟨rfl, by simp⟩
      · rcases ih (i + 1) (v + (c.toNat - 128) * 2 ^ (7 * i)) r with h | h | h
        · exact .inl ⟨h.1, by have := h.2; simp only [List.length_cons]; omega⟩
        · exact .inr (.inl h)
        · exact .inr (.inr h)
theorem rdNum_form (l : List UInt8) : (∃ v n, rdNum l = (v, n, 0) ∧ 1 ≤ n ∧ n ≤ l.length ∧ n ≤ 10 ∧ v < 18446744073709551616) ∨ rdNum l = (0, 0, 11) ∨ rdNum l = (0, 0, 12) := by
  rcases rdF_form 10 0 0 l with h | h | h
  · obtain ⟨v, n, e, hr⟩ : ∃ v n e, rdNum l = (v, n, e) := ⟨_, _, _, rfl⟩
    have he : e = 0 := by
      have := h.1
      rw [show rdF 10 0 0 l = rdNum l from rfl, hr] at this
      exact this
    subst he
    obtain ⟨h1, h2, h3, h4⟩ := rdNum_back l v n hr
    have h5 := num_len10 v h4
    rw [h1, List.length_take] at h5
    exact .inl ⟨v, n, hr, h2, h3, by omega, h4⟩
  · exact .inr (.inl h)
  · exact .inr (.inr h)

/-- A FRONT OF A NUMBER IS TOO SHORT. -/
theorem rdF_front (f : Nat) : ∀ (n i v j : Nat), n < 2 ^ (7 * f + 1) → j < (num n).length → rdF (f + 1) i v ((num n).take j) = (0, 0, 11) := by
  induction f with
  | zero =>
    intro n i v j hn hj
    rw [num_lo n (by simp at hn; omega)] at hj ⊢
    have : j = 0 := by simpa using hj
    subst this
    rfl
  | succ f ih =>
    intro n i v j hn hj
    cases j with
    | zero => rfl
    | succ j =>
      by_cases h : n < 128
      · rw [num_lo n h] at hj
        simp at hj
      · rw [num_hi n h] at hj ⊢
        have ht : (UInt8.ofNat (n % 128 + 128)).toNat = n % 128 + 128 := toNat_ofC _ (by omega)
        rw [List.take_succ_cons, rdF, ht, if_neg (by omega)]
        apply ih
        · have e : 2 ^ (7 * (f + 1) + 1) = 128 * 2 ^ (7 * f + 1) := by rw [show 7 * (f + 1) + 1 = 7 * f + 1 + 7 from by omega, Nat.pow_add, Nat.mul_comm]
          rw [e] at hn
          omega
        · simpa using hj
theorem rdNum_front (n j : Nat) (hn : n < 18446744073709551616) (hj : j < (num n).length) : rdNum ((num n).take j) = (0, 0, 11) :=
  rdF_front 9 n 0 0 j (by simpa using hn) hj
end Go.Proofs.YtlbfgkocpjlamaaGreatDoor

/-
  Plain facts on frames: what a frame is; what stands at the front of any bytes; what is written is read back.
-/
namespace Go.Proofs.YtlbfgkocpjlamaaGreatDoor

def four (s : Nat) : List UInt8 := [UInt8.ofNat (s % 256), UInt8.ofNat (s / 256 % 256), UInt8.ofNat (s / 65536 % 256), UInt8.ofNat (s / 16777216 % 256)]
def frame (l : List UInt8) : List UInt8 := num l.length ++ (four (crc l) ++ l)
def frames (ls : List (List UInt8)) : List UInt8 := (ls.map frame).flatten
/-- How many bytes the program makes roomC for. -/
def roomC (ls : List (List UInt8)) : Nat := ls.length * 14 + ls.flatten.length

theorem room_snoc (ls : List (List UInt8)) (l : List UInt8) : roomC (ls ++ [l]) = roomC ls + (14 + l.length) := by
  simp [roomC]
  omega
theorem frames_snoc (ls : List (List UInt8)) (l : List UInt8) : frames (ls ++ [l]) = frames ls ++ frame l := by
  simp [frames]
theorem frames_cons (ls : List (List UInt8)) (l : List UInt8) : frames (l :: ls) = frame l ++ frames ls := by
  simp [frames]
theorem frames_one (l : List UInt8) : frames [l] = frame l := by simp [frames]
theorem four_length (s : Nat) : (four s).length = 4 := rfl
theorem room_take (ls : List (List UInt8)) (k : Nat) : roomC (ls.take k) ≤ roomC ls := by
  have h1 : (ls.take k).length ≤ ls.length := List.length_take_le' _ _
  have h2 : (ls.take k).flatten.length + (ls.drop k).flatten.length = ls.flatten.length := by
    rw [← List.length_append, ← List.flatten_append, List.take_append_drop]
  unfold roomC
  omega
theorem frame_length (l : List UInt8) (h : l.length < 18446744073709551616) : (frame l).length ≤ 14 + l.length ∧ 5 + l.length ≤ (frame l).length := by
  have h1 := num_len10 l.length h
  have h2 := num_len_pos l.length
  simp only [frame, List.length_append, four_length]
  omega
theorem frames_length (ls : List (List UInt8)) (h : ls.flatten.length < 18446744073709551616) : (frames ls).length ≤ roomC ls := by
  induction ls with
  | nil => simp [frames, roomC]
  | cons l r ih =>
    simp only [List.flatten_cons, List.length_append] at h
    have h1 := ih (by omega)
    have h2 := (frame_length l (by omega)).1
    rw [frames_cons, List.length_append]
    simp only [roomC, List.length_cons, List.flatten_cons, List.length_append] at h1 ⊢
    omega
theorem flat_take (ls : List (List UInt8)) (k : Nat) : (ls.take k).flatten.length ≤ ls.flatten.length := by
  have h2 : (ls.take k).flatten.length + (ls.drop k).flatten.length = ls.flatten.length := by
    rw [← List.length_append, ← List.flatten_append, List.take_append_drop]
  omega
theorem flat_mem (ls : List (List UInt8)) (k : Nat) (l : List UInt8) (h : ls[k]? = some l) : l.length ≤ ls.flatten.length := by
  have hk : k < ls.length := (List.getElem?_eq_some_iff.1 h).1
  have h2 := flat_take ls (k + 1)
  rw [List.take_add_one, h] at h2
  simp at h2
  simp
  omega

/-- How many bytes all have. -/
def fln (ls : List (List UInt8)) : Nat := ls.flatten.length
theorem fln_snoc (ls : List (List UInt8)) (l : List UInt8) : fln (ls ++ [l]) = fln ls + l.length := by
  simp only [fln, List.flatten_append, List.flatten_cons, List.flatten_nil, List.append_nil, List.length_append]
theorem flatten_snoc (ls : List (List UInt8)) (l : List UInt8) : (ls ++ [l]).flatten = ls.flatten ++ l := by
  simp only [List.flatten_append, List.flatten_cons, List.flatten_nil, List.append_nil]
theorem fln_take (ls : List (List UInt8)) (k : Nat) : fln (ls.take k) ≤ fln ls := flat_take ls k

/-- Four bytes as a number. -/
def unfour (l : List UInt8) : Nat := (l.getD 0 0).toNat + (l.getD 1 0).toNat * 256 + (l.getD 2 0).toNat * 65536 + (l.getD 3 0).toNat * 16777216
theorem unfour_four (s : Nat) (r : List UInt8) (h : s < 4294967296) : unfour (four s ++ r) = s := by
  simp only [unfour, four, List.cons_append, List.getD_cons_zero, List.getD_cons_succ]
  rw [toNat_ofC _ (by omega), toNat_ofC _ (by omega), toNat_ofC _ (by omega), toNat_ofC _ (by omega)]
  omega
end Go.Proofs.YtlbfgkocpjlamaaGreatDoor

/-
  Plain facts on what is read: lengths, bytes, frames, frames behind one another; what is written is read back; a front of frames.
-/
namespace Go.Proofs.YtlbfgkocpjlamaaGreatDoor

def rdLen (l : List UInt8) (most extra : Nat) : Nat × Nat × Nat :=
  if (rdNum l).2.2 ≠ 0 then (0, 0, (rdNum l).2.2) else if most < (rdNum l).1 then (0, 0, 3) else if (rdNum l).1 + (rdNum l).2.1 + extra ≤ l.length then ((rdNum l).2.1, (rdNum l).1, 0) else (0, 0, 11)
theorem rdLen_err (l : List UInt8) (most extra e : Nat) (h : rdNum l = (0, 0, e)) (he : e ≠ 0) : rdLen l most extra = (0, 0, e) := by
  unfold rdLen
  rw [h, if_pos he]
theorem rdLen_long (l : List UInt8) (most extra v n : Nat) (h : rdNum l = (v, n, 0)) (hv : most < v) : rdLen l most extra = (0, 0, 3) := by
  unfold rdLen
  rw [h, if_neg (by simp), if_pos hv]
theorem rdLen_ok (l : List UInt8) (most extra v n : Nat) (h : rdNum l = (v, n, 0)) (hv : ¬ most < v) (hl : v + n + extra ≤ l.length) : rdLen l most extra = (n, v, 0) := by
  unfold rdLen
  rw [h, if_neg (by simp), if_neg hv, if_pos hl]
theorem rdLen_short (l : List UInt8) (most extra v n : Nat) (h : rdNum l = (v, n, 0)) (hv : ¬ most < v) (hl : ¬ v + n + extra ≤ l.length) : rdLen l most extra = (0, 0, 11) := by
  unfold rdLen
  rw [h, if_neg (by simp), if_neg hv, if_neg hl]
/-- Either a length within the bytes, or an error and zeros. -/
theorem rdLen_form (l : List UInt8) (most extra : Nat) :
    (∃ v n, rdLen l most extra = (n, v, 0) ∧ rdNum l = (v, n, 0) ∧ v ≤ most ∧ v + n + extra ≤ l.length ∧ 1 ≤ n ∧ n ≤ 10) ∨ ∃ e, rdLen l most extra = (0, 0, e) ∧ (e = 3 ∨ e = 11 ∨ e = 12) := by
  rcases rdNum_form l with ⟨v, n, h, h1, h2, h3, _⟩ | h | h
  · by_cases hv : most < v
    · exact .inr ⟨3, rdLen_long l most extra v n h hv, by omega⟩
    · by_cases hl : v + n + extra ≤ l.length
      · exact .inl ⟨v, n, rdLen_ok l most extra v n h hv hl, h, by omega, hl, h1, h3⟩
      · exact .inr ⟨11, rdLen_short l most extra v n h hv hl, by omega⟩
  · exact .inr ⟨11, rdLen_err l most extra 11 h (by decide), by omega⟩
  · exact .inr ⟨12, rdLen_err l most extra 12 h (by decide), by omega⟩

def rdBytes (l : List UInt8) (most : Nat) : List UInt8 × Nat × Nat :=
  if (rdLen l most 0).2.2 ≠ 0 then ([], 0, (rdLen l most 0).2.2) else ((l.drop (rdLen l most 0).1).take (rdLen l most 0).2.1, (rdLen l most 0).1 + (rdLen l most 0).2.1, 0)
theorem rdBytes_err (l : List UInt8) (most e : Nat) (h : rdLen l most 0 = (0, 0, e)) (he : e ≠ 0) : rdBytes l most = ([], 0, e) := by
  unfold rdBytes
  rw [h, if_pos he]
theorem rdBytes_ok (l : List UInt8) (most v n : Nat) (h : rdLen l most 0 = (n, v, 0)) : rdBytes l most = ((l.drop n).take v, n + v, 0) := by
  unfold rdBytes
  rw [h, if_neg (by simp)]

def rdFrame (l : List UInt8) : List UInt8 × Nat × Nat :=
  if (rdLen l 67108864 4).2.2 ≠ 0 then ([], 0, (rdLen l 67108864 4).2.2) else
  if crc ((l.drop ((rdLen l 67108864 4).1 + 4)).take (rdLen l 67108864 4).2.1) = unfour (l.drop (rdLen l 67108864 4).1) then
    ((l.drop ((rdLen l 67108864 4).1 + 4)).take (rdLen l 67108864 4).2.1, (rdLen l 67108864 4).1 + 4 + (rdLen l 67108864 4).2.1, 0)
  else ([], 0, 13)
theorem rdFrame_err (l : List UInt8) (e : Nat) (h : rdLen l 67108864 4 = (0, 0, e)) (he : e ≠ 0) : rdFrame l = ([], 0, e) := by
  unfold rdFrame
  rw [h, if_pos he]
theorem rdFrame_ok (l : List UInt8) (v n : Nat) (h : rdLen l 67108864 4 = (n, v, 0)) (hc : crc ((l.drop (n + 4)).take v) = unfour (l.drop n)) : rdFrame l = ((l.drop (n + 4)).take v, n + 4 + v, 0) := by
  unfold rdFrame
  rw [h, if_neg (by simp), if_pos hc]
theorem rdFrame_sum (l : List UInt8) (v n : Nat) (h : rdLen l 67108864 4 = (n, v, 0)) (hc : ¬ crc ((l.drop (n + 4)).take v) = unfour (l.drop n)) : rdFrame l = ([], 0, 13) := by
  unfold rdFrame
  rw [h, if_neg (by simp), if_neg hc]
/-- A frame within the bytes, or an error and zeros. -/
theorem rdFrame_form (l : List UInt8) : (∃ p n, rdFrame l = (p, n, 0) ∧ 5 ≤ n ∧ n ≤ l.length ∧ p.length + 5 ≤ n ∧ p.length ≤ 67108864) ∨ ∃ e, rdFrame l = ([], 0, e) ∧ (e = 3 ∨ e = 11 ∨ e = 12 ∨ e = 13) := by
  rcases rdLen_form l 67108864 4 with ⟨v, n, h, _, hv, hl, h1, h2⟩ | ⟨e, h, he⟩
  · by_cases hc : crc ((l.drop (n + 4)).take v) = unfour (l.drop n)
    · refine .inl ⟨_, _, rdFrame_ok l v n h hc, by omega, by omega, ?_, ?_⟩ <;> rw [List.length_take, List.length_drop] <;> omega
    · exact .inr ⟨13, rdFrame_sum l v n h hc, by omega⟩
  · exact .inr ⟨e, rdFrame_err l e h (by omega), by omega⟩

/-- Frames behind one another; 'f' is at least how many there may be. -/
def rdFs : Nat → List UInt8 → List (List UInt8) × Nat × Nat
  | 0, _ => ([], 0, 0)
  | f + 1, l =>
    if l = [] then ([], 0, 0) else
    if (rdFrame l).2.2 ≠ 0 then ([], 0, (rdFrame l).2.2) else
    ((rdFrame l).1 :: (rdFs f (l.drop (rdFrame l).2.1)).1, (rdFrame l).2.1 + (rdFs f (l.drop (rdFrame l).2.1)).2.1, (rdFs f (l.drop (rdFrame l).2.1)).2.2)
def rdFrames (l : List UInt8) : List (List UInt8) × Nat × Nat := rdFs l.length l
theorem rdFs_nil (f : Nat) : rdFs f [] = ([], 0, 0) := by
  cases f with
  | zero => rfl
  | succ f => rw [rdFs, if_pos rfl]
theorem rdFs_err (f : Nat) (l : List UInt8) (e : Nat) (hf : l.length ≤ f) (hl : l ≠ []) (h : rdFrame l = ([], 0, e)) (he : e ≠ 0) : rdFs f l = ([], 0, e) := by
  cases f with
  | zero =>
    have := List.length_pos_iff.2 hl
    omega
  | succ f => rw [rdFs, if_neg hl, h, if_pos he]
/-- More fuelC changes nothing. -/
theorem rdFs_fuel : ∀ (f g : Nat) (l : List UInt8), l.length ≤ f → l.length ≤ g → rdFs f l = rdFs g l := by
  intro f
  induction f with
  | zero =>
    intro g l hf _
    have : l = [] := List.eq_nil_of_length_eq_zero (by omega)
    subst this
    rw [rdFs_nil, rdFs_nil]
  | succ f ih =>
    intro g l hf hg
    by_cases hl : l = []
    · subst hl
      rw [rdFs_nil, rdFs_nil]
    · have hpos := List.length_pos_iff.2 hl
      cases g with
      | zero => omega
      | succ g =>
        rw [rdFs, rdFs, if_neg hl, if_neg hl]
        rcases rdFrame_form l with ⟨p, n, h, h1, h2, _⟩ | ⟨e, h, he⟩
        · rw [h]
          have hd : (l.drop n).length ≤ f := by rw [List.length_drop]; omega
          have hd2 : (l.drop n).length ≤ g := by rw [List.length_drop]; omega
          simp only [ih g (l.drop n) hd hd2]
        · rw [h, if_pos (by simp; omega), if_pos (by simp; omega)]
theorem rdFrames_nil : rdFrames [] = ([], 0, 0) := rfl
theorem rdFrames_err (l : List UInt8) (e : Nat) (hl : l ≠ []) (h : rdFrame l = ([], 0, e)) (he : e ≠ 0) : rdFrames l = ([], 0, e) := rdFs_err _ l e (Nat.le_refl _) hl h he
theorem rdFrames_ok (l p : List UInt8) (n : Nat) (hl : l ≠ []) (h : rdFrame l = (p, n, 0)) (hn : 1 ≤ n) : rdFrames l = (p :: (rdFrames (l.drop n)).1, n + (rdFrames (l.drop n)).2.1, (rdFrames (l.drop n)).2.2) := by
  have hpos := List.length_pos_iff.2 hl
  unfold rdFrames
  obtain ⟨f, hf⟩ : ∃ f, l.length = f + 1 := ⟨l.length - 1, by omega⟩
  rw [hf, rdFs, if_neg hl, h, if_neg (by simp)]
  simp only
  rw [rdFs_fuel f (l.drop n).length (l.drop n) (by rw [List.length_drop]; omega) (Nat.le_refl _)]
end Go.Proofs.YtlbfgkocpjlamaaGreatDoor

/-
  Plain facts: a frame that was written is read back, all of it; a byte of its payload that is another one is found; what is read as a frame is written just so.
-/
namespace Go.Proofs.YtlbfgkocpjlamaaGreatDoor

theorem made_parts (m rest : List UInt8) (s : Nat) :
    (num m.length ++ (four s ++ (m ++ rest))).drop (num m.length).length = four s ++ (m ++ rest) ∧
    (num m.length ++ (four s ++ (m ++ rest))).drop ((num m.length).length + 4) = m ++ rest := by
  have h1 : (num m.length ++ (four s ++ (m ++ rest))).drop (num m.length).length = four s ++ (m ++ rest) := List.drop_left
  refine ⟨h1, ?_⟩
  rw [← List.drop_drop, h1]
  rfl
theorem made_len (m rest : List UInt8) (s : Nat) (hm : m.length ≤ 67108864) :
    rdLen (num m.length ++ (four s ++ (m ++ rest))) 67108864 4 = ((num m.length).length, m.length, 0) := by
  refine rdLen_ok _ _ _ _ _ (rdNum_num m.length _ (by omega)) (by omega) ?_
  simp only [List.length_append, four_length]
  omega
theorem rdFrame_made (m rest : List UInt8) (s : Nat) (hm : m.length ≤ 67108864) (hs : s < 4294967296) (hc : crc m = s) :
    rdFrame (num m.length ++ (four s ++ (m ++ rest))) = (m, (num m.length).length + 4 + m.length, 0) := by
  obtain ⟨h1, h2⟩ := made_parts m rest s
  have h := rdFrame_ok _ m.length (num m.length).length (made_len m rest s hm) (by rw [h1, h2, List.take_left, unfour_four s _ hs, hc])
  rw [h, h2, List.take_left]
theorem rdFrame_other (m rest : List UInt8) (s : Nat) (hm : m.length ≤ 67108864) (hs : s < 4294967296) (hc : crc m ≠ s) :
    rdFrame (num m.length ++ (four s ++ (m ++ rest))) = ([], 0, 13) := by
  obtain ⟨h1, h2⟩ := made_parts m rest s
  exact rdFrame_sum _ m.length (num m.length).length (made_len m rest s hm) (by rw [h1, h2, List.take_left, unfour_four s _ hs]; exact hc)
theorem frame_eq_length (l : List UInt8) : (frame l).length = (num l.length).length + 4 + l.length := by
  simp only [frame, List.length_append, four_length]
  omega
/-- WHAT IS WRITTEN IS READ, whatever stands behind it. -/
theorem rdFrame_frame (l rest : List UInt8) (hl : l.length ≤ 67108864) : rdFrame (frame l ++ rest) = (l, (frame l).length, 0) := by
  have h := rdFrame_made l rest (crc l) hl (crc_lt l) rfl
  rw [frame_eq_length, ← h]
  simp [frame]
/-- ONE BYTE OF THE PAYLOAD THAT IS ANOTHER ONE IS FOUND. -/
theorem rdFrame_set (l : List UInt8) (j : Nat) (y : UInt8) (hl : l.length ≤ 67108864) (hj : j < l.length) (hy : y ≠ l[j]) :
    rdFrame ((frame l).set ((frame l).length - l.length + j) y) = ([], 0, 13) := by
  have hlen := frame_eq_length l
  have e : (frame l).set ((frame l).length - l.length + j) y = num (l.set j y).length ++ (four (crc l) ++ (l.set j y ++ [])) := by
    rw [hlen, List.append_nil, List.length_set]
    unfold frame
    rw [List.set_append_right _ _ (by omega), List.set_append_right _ _ (by rw [four_length]; omega)]
    congr 3
    rw [four_length]
    omega
  rw [e]
  refine rdFrame_other _ _ _ (by rw [List.length_set]; omega) (crc_lt l) (fun h => ?_)
  have h1 : l = l.take j ++ l[j] :: l.drop (j + 1) := by
    rw [List.getElem_cons_drop]
    exact (List.take_append_drop j l).symm
  have h2 : l.set j y = l.take j ++ y :: l.drop (j + 1) := List.set_eq_take_append_cons_drop.trans (if_pos hj)
  rw [h2] at h
  have h3 : crc l = crc (l.take j ++ l[j] :: l.drop (j + 1)) := congrArg crc h1
  rw [h3] at h
  exact crc_other (l.take j) (l.drop (j + 1)) y l[j] hy h

theorem four_unfour (a b c d : UInt8) (r : List UInt8) : four (unfour (a :: b :: c :: d :: r)) = [a, b, c, d] := by
  have ha := a.toNat_lt
  have hb := b.toNat_lt
  have hc := c.toNat_lt
  have hd := d.toNat_lt
  simp only [four, unfour, List.getD_cons_zero, List.getD_cons_succ]
  congr 1
  · rw [← of_toNat a]
    congr 1
    rw [of_toNat]
    omega
  congr 1
  · rw [← of_toNat b]
    congr 1
    rw [of_toNat]
    omega
  congr 1
  · rw [← of_toNat c]
    congr 1
    rw [of_toNat]
    omega
  congr 1
  · rw [← of_toNat d]
    congr 1
    rw [of_toNat]
    omega
theorem four_take (l : List UInt8) (h : 4 ≤ l.length) : four (unfour l) = l.take 4 := by
  match l, h with
  | a :: b :: c :: d :: r, _ => rw [four_unfour]; rfl
/-- WHAT IS READ IS WRITTEN JUST SO. -/
theorem rdFrame_back (l p : List UInt8) (n : Nat) (h : rdFrame l = (p, n, 0)) : frame p = l.take n := by
  rcases rdLen_form l 67108864 4 with ⟨v, k, hr, hn, hv, hl, h1, h2⟩ | ⟨e, hr, he⟩
  · by_cases hc : crc ((l.drop (k + 4)).take v) = unfour (l.drop k)
    · rw [rdFrame_ok l v k hr hc] at h
      simp only [Prod.mk.injEq] at h
      obtain ⟨rfl, rfl, _⟩ := h
      obtain ⟨hb, _, _, _⟩ := rdNum_back l v k hn
      have hpl : ((l.drop (k + 4)).take v).length = v := by rw [List.length_take, List.length_drop]; omega
      unfold frame
      rw [hpl, hc, hb, four_take _ (by rw [List.length_drop]; omega), ← List.drop_drop, show k + 4 + v = k + (4 + v) from by omega, List.take_add, List.take_add]
    · rw [rdFrame_sum l v k hr hc] at h
      simp at h
  · rw [rdFrame_err l e hr (by omega)] at h
    simp only [Prod.mk.injEq] at h
    omega
end Go.Proofs.YtlbfgkocpjlamaaGreatDoor

/-
  Plain facts on a front of frames: the whole ones are read, and no others; it is too short, if it does not end behind one.
-/
namespace Go.Proofs.YtlbfgkocpjlamaaGreatDoor

/-- How many frames are whole within c bytes, and how many bytes they have. -/
def wh : List (List UInt8) → Nat → Nat × Nat
  | [], _ => (0, 0)
  | l :: r, c => if (frame l).length ≤ c then ((wh r (c - (frame l).length)).1 + 1, (frame l).length + (wh r (c - (frame l).length)).2) else (0, 0)

theorem rdFrame_short (l : List UInt8) (c : Nat) (hl : l.length ≤ 67108864) (hc : c < (frame l).length) : rdFrame ((frame l).take c) = ([], 0, 11) := by
  have hfl := frame_eq_length l
  by_cases h : c < (num l.length).length
  · have e : (frame l).take c = (num l.length).take c := by
      unfold frame
      rw [List.take_append_of_le_length (by omega)]
    rw [e]
    exact rdFrame_err _ 11 (rdLen_err _ _ _ 11 (rdNum_front l.length c (by omega) h) (by decide)) (by decide)
  · have e : (frame l).take c = num l.length ++ (four (crc l) ++ l).take (c - (num l.length).length) := by
      unfold frame
      rw [List.take_append, List.take_of_length_le (by omega)]
    rw [e]
    refine rdFrame_err _ 11 (rdLen_short _ _ _ l.length (num l.length).length (rdNum_num l.length _ (by omega)) (by omega) ?_) (by decide)
    rw [List.length_append, List.length_take, List.length_append, four_length]
    omega

theorem rdFrames_front : ∀ (ls : List (List UInt8)) (c : Nat), (∀ l ∈ ls, l.length ≤ 67108864) → c ≤ (frames ls).length →
    rdFrames ((frames ls).take c) = (ls.take (wh ls c).1, (wh ls c).2, if (wh ls c).2 = c then 0 else 11) := by
  intro ls
  induction ls with
  | nil =>
    intro c _ hc
    have : c = 0 := by simpa [frames] using hc
    subst this
    rfl
  | cons l r ih =>
    intro c hall hc
    have hl := hall l (by simp)
    have hpos := (frame_eq_length l)
    rw [frames_cons] at hc ⊢
    by_cases h : (frame l).length ≤ c
    · have e : (frame l ++ frames r).take c = frame l ++ (frames r).take (c - (frame l).length) := by
        rw [List.take_append, List.take_of_length_le (by omega)]
      have hne : frame l ++ (frames r).take (c - (frame l).length) ≠ [] := by
        intro h0
        have := congrArg List.length h0
        rw [List.length_append] at this
        simp only [List.length_nil] at this
        have := num_len_pos l.length
        omega
      rw [e, rdFrames_ok _ l (frame l).length hne (rdFrame_frame l _ hl) (by omega), List.drop_left, ih (c - (frame l).length) (fun m hm => hall m (by simp [hm])) (by rw [List.length_append] at hc; omega)]
      simp only [wh, if_pos h, List.take_succ_cons]
      congr 2
      by_cases h2 : (wh r (c - (frame l).length)).2 = c - (frame l).length
      · rw [if_pos h2, if_pos (by omega)]
      · rw [if_neg h2, if_neg (by omega)]
    · simp only [wh, if_neg h, List.take_zero]
      have e : (frame l ++ frames r).take c = (frame l).take c := List.take_append_of_le_length (by omega)
      rw [e]
      by_cases h0 : c = 0
      · subst h0
        rfl
      · rw [if_neg (by omega)]
        refine rdFrames_err _ 11 (fun h1 => ?_) (rdFrame_short l c hl (by omega)) (by decide)
        have := congrArg List.length h1
        rw [List.length_take] at this
        simp only [List.length_nil] at this
        omega

/-- Step by step. -/
theorem wh_step (ls : List (List UInt8)) (k c a : Nat) (l : List UInt8) (hk : ls[k]? = some l) (ha : a + (frame l).length ≤ c)
    (h : wh ls c = (k + (wh (ls.drop k) (c - a)).1, a + (wh (ls.drop k) (c - a)).2)) :
    wh ls c = (k + 1 + (wh (ls.drop (k + 1)) (c - (a + (frame l).length))).1, a + (frame l).length + (wh (ls.drop (k + 1)) (c - (a + (frame l).length))).2) := by
  obtain ⟨hlt, he⟩ := List.getElem?_eq_some_iff.1 hk
  have hd : ls.drop k = l :: ls.drop (k + 1) := by rw [List.drop_eq_getElem_cons hlt, he]
  rw [h, hd]
  simp only [wh]
  rw [if_pos (by omega), show c - a - (frame l).length = c - (a + (frame l).length) from by omega]
  simp only [Prod.mk.injEq]
  omega
theorem wh_stop (ls : List (List UInt8)) (k c a : Nat) (h : wh ls c = (k + (wh (ls.drop k) (c - a)).1, a + (wh (ls.drop k) (c - a)).2))
    (hs : ls.length ≤ k ∨ ∃ l, ls[k]? = some l ∧ c < a + (frame l).length) : wh ls c = (k, a) := by
  rw [h]
  rcases hs with hs | ⟨l, hk, hlt⟩
  · rw [List.drop_eq_nil_of_le hs]
    rfl
  · obtain ⟨hl, he⟩ := List.getElem?_eq_some_iff.1 hk
    have hd : ls.drop k = l :: ls.drop (k + 1) := by rw [List.drop_eq_getElem_cons hl, he]
    have h1 := frame_eq_length l
    have h2 := num_len_pos l.length
    rw [hd]
    simp only [wh]
    rw [if_neg (by omega)]
    rfl
end Go.Proofs.YtlbfgkocpjlamaaGreatDoor
