import Derived.Laws.BitsAllLaws
import Derived.Test.YtagehnclkneolaaGreatDoorBlk
import Derived.Below
import Derived.Laws.AppendOwn
import Derived.Laws.OwnMore
import Derived.Deep.Draws
import Derived.Test.YtagehnclkneolaaGreatDoorRows
import Derived.Laws.AppendOwnNone
import Derived.Deep.MidRow
import Derived.WalkKit
import Derived.OwnWalk
import Derived.Laws.Rows
import Derived.Laws.IdiomStrings
import Derived.WalkSpells
import Derived.BigQuiet
import Derived.Deep.QuietTactic
import Derived.Lib.Hide

/-
  Plain facts on the CRC-32C, told on natural numbers and lists of bytes: the two tables of sixteen words do what eight steps of one bit do; a remainder is known by what it becomes; so one bit that is another one turns the sum.
-/
namespace Go.Proofs.YtagehnclkneolaaGreatDoor

def stp (z : Nat) : Nat := if z % 2 = 1 then z / 2 ^^^ 2197175160 else z / 2
def stps : Nat → Nat → Nat
  | 0, z => z
  | k + 1, z => stps k (stp z)
def crcByte (c : Nat) (x : UInt8) : Nat := stps 8 (c ^^^ x.toNat)
def crcL (c : Nat) (l : List UInt8) : Nat := l.foldl crcByte c
def crc (l : List UInt8) : Nat := crcL 4294967295 l ^^^ 4294967295

def lowT : List Nat := [0, 4067132163, 3778769143, 324072436, 3348797215, 904991772, 648144872, 3570033899, 2329499855, 2024987596, 1809983544, 2575936315, 1296289744, 3207089363, 2893594407, 1578318884]
def highT : List Nat := [0, 274646895, 549293790, 820201905, 1098587580, 1361435347, 1640403810, 1905808397, 2197175160, 2460548119, 2722870694, 2987750089, 3280807620, 3553878443, 3811616794, 4084100981]

theorem xor_mod2 (a b : Nat) : (a ^^^ b) % 2 = (a % 2 + b % 2) % 2 := by
  have h : (a ^^^ b) % 2 ^ 1 = a % 2 ^ 1 ^^^ b % 2 ^ 1 := Nat.xor_mod_two_pow
  simp only [Nat.pow_one] at h
  rw [h]
  rcases Nat.mod_two_eq_zero_or_one a with ha | ha <;> rcases Nat.mod_two_eq_zero_or_one b with hb | hb <;> rw [ha, hb] <;> decide
theorem xor_div2 (a b : Nat) : (a ^^^ b) / 2 = a / 2 ^^^ b / 2 := by
  have h : (a ^^^ b) / 2 ^ 1 = a / 2 ^ 1 ^^^ b / 2 ^ 1 := Nat.xor_div_two_pow
  simpa only [Nat.pow_one] using h
theorem xor_swap (a b p : Nat) : a ^^^ b ^^^ p = a ^^^ p ^^^ b := by
  rw [Nat.xor_assoc, Nat.xor_comm b p, ← Nat.xor_assoc]
theorem xor_undo (a p : Nat) : a ^^^ p ^^^ p = a := by
  rw [Nat.xor_assoc, Nat.xor_self, Nat.xor_zero]
theorem xor_inj (a b p : Nat) (h : a ^^^ p = b ^^^ p) : a = b := by
  rw [← xor_undo a p, h, xor_undo]
theorem xor_lt32 (a b : Nat) (ha : a < 4294967296) (hb : b < 4294967296) : a ^^^ b < 4294967296 := Nat.xor_lt_two_pow (n := 32) ha hb

theorem stp_xor (a b : Nat) : stp (a ^^^ b) = stp a ^^^ stp b := by
  unfold stp
  rw [xor_mod2, xor_div2]
  rcases Nat.mod_two_eq_zero_or_one a with ha | ha <;> rcases Nat.mod_two_eq_zero_or_one b with hb | hb <;> simp only [ha, hb] <;> simp
  · rw [Nat.xor_assoc]
  · rw [xor_swap]
  · rw [xor_swap (a / 2) 2197175160, ← Nat.xor_assoc, xor_undo]
theorem stps_xor (k : Nat) : ∀ a b, stps k (a ^^^ b) = stps k a ^^^ stps k b := by
  induction k with
  | zero => intro a b; rfl
  | succ k ih => intro a b; simp only [stps, stp_xor, ih]
theorem stps_mul (k : Nat) : ∀ m, stps k (m * 2 ^ k) = m := by
  induction k with
  | zero => intro m; simp [stps]
  | succ k ih =>
    intro m
    have e : m * 2 ^ (k + 1) = m * 2 ^ k * 2 := by rw [Nat.pow_succ, Nat.mul_assoc]
    have h : stp (m * 2 ^ (k + 1)) = m * 2 ^ k := by
      unfold stp
      rw [e, if_neg (by omega)]
      omega
    show stps k (stp (m * 2 ^ (k + 1))) = m
    rw [h, ih]
theorem split256 (z : Nat) : z = z / 256 * 2 ^ 8 ^^^ z % 256 := by
  apply Nat.eq_of_testBit_eq
  intro i
  have h8 : (z % 2 ^ 8).testBit i = (decide (i < 8) && z.testBit i) := Nat.testBit_mod_two_pow _ _ _
  have hd : z / 256 = z / 2 ^ 8 := rfl
  have hm : z % 256 = z % 2 ^ 8 := rfl
  rw [Nat.testBit_xor, hm, h8, hd, Nat.testBit_mul_two_pow, Nat.testBit_div_two_pow]
  by_cases h : i < 8
  · simp [h, show ¬ 8 ≤ i from by omega]
  · have : i - 8 + 8 = i := by omega
    simp [h, show 8 ≤ i from by omega, this]

set_option maxRecDepth 100000 in
theorem tab256 : ∀ a, a < 256 → stps 8 a = lowT.getD (a % 16) 0 ^^^ highT.getD (a / 16) 0 := by decide +kernel

theorem table (z : Nat) : stps 8 z = lowT.getD (z % 256 % 16) 0 ^^^ highT.getD (z % 256 / 16) 0 ^^^ z / 256 := by
  have h : stps 8 z = stps 8 (z / 256 * 2 ^ 8 ^^^ z % 256) := congrArg (stps 8) (split256 z)
  rw [h, stps_xor, stps_mul, tab256 (z % 256) (Nat.mod_lt _ (by decide)), Nat.xor_comm]

/-- A BYTE BY THE TABLES: what the program reckons. -/
theorem byTable (c : Nat) (x : UInt8) : crcByte c x = lowT.getD ((c % 256 ^^^ x.toNat) % 16) 0 ^^^ highT.getD ((c % 256 ^^^ x.toNat) / 16) 0 ^^^ c / 256 := by
  have hx : x.toNat < 256 := x.toNat_lt
  have hm : (c ^^^ x.toNat) % 256 = c % 256 ^^^ x.toNat := by
    have h : (c ^^^ x.toNat) % 2 ^ 8 = c % 2 ^ 8 ^^^ x.toNat % 2 ^ 8 := Nat.xor_mod_two_pow
    have e : x.toNat % 2 ^ 8 = x.toNat := Nat.mod_eq_of_lt hx
    rw [e] at h
    exact h
  have hd : (c ^^^ x.toNat) / 256 = c / 256 := by
    have h : (c ^^^ x.toNat) / 2 ^ 8 = c / 2 ^ 8 ^^^ x.toNat / 2 ^ 8 := Nat.xor_div_two_pow
    have e : x.toNat / 2 ^ 8 = 0 := Nat.div_eq_of_lt hx
    rw [e, Nat.xor_zero] at h
    exact h
  unfold crcByte
  rw [table, hm, hd]

theorem stp_lt (z : Nat) (h : z < 4294967296) : stp z < 4294967296 := by
  unfold stp
  split
  · exact xor_lt32 _ _ (by omega) (by decide)
  · omega
theorem stps_lt (k : Nat) : ∀ z, z < 4294967296 → stps k z < 4294967296 := by
  induction k with
  | zero => intro z h; exact h
  | succ k ih => intro z h; exact ih _ (stp_lt z h)
theorem stps_succ (k : Nat) : ∀ z, stps (k + 1) z = stp (stps k z) := by
  induction k with
  | zero => intro z; rfl
  | succ k ih => intro z; show stps (k + 1) (stp z) = _; rw [ih]; rfl
theorem crcByte_lt (c : Nat) (x : UInt8) (h : c < 4294967296) : crcByte c x < 4294967296 :=
  stps_lt 8 _ (xor_lt32 _ _ h (by have := x.toNat_lt; omega))
theorem crcL_lt (l : List UInt8) : ∀ c, c < 4294967296 → crcL c l < 4294967296 := by
  induction l with
  | nil => intro c h; exact h
  | cons x r ih => intro c h; exact ih _ (crcByte_lt c x h)
theorem crc_lt (l : List UInt8) : crc l < 4294967296 := xor_lt32 _ _ (crcL_lt l _ (by decide)) (by decide)
theorem crcL_append (c : Nat) (a b : List UInt8) : crcL c (a ++ b) = crcL (crcL c a) b := by simp [crcL]
theorem crcL_snoc (c : Nat) (a : List UInt8) (x : UInt8) : crcL c (a ++ [x]) = crcByte (crcL c a) x := by simp [crcL]

theorem stp_inj (a b : Nat) (ha : a < 4294967296) (hb : b < 4294967296) (h : stp a = stp b) : a = b := by
  have top : ∀ z, z < 4294967296 → stp z / 2 ^ 31 = z % 2 := by
    intro z hz
    unfold stp
    split
    · rename_i h1
      have h2 : (z / 2 ^^^ 2197175160) / 2 ^ 31 = z / 2 / 2 ^ 31 ^^^ 2197175160 / 2 ^ 31 := Nat.xor_div_two_pow
      have h3 : z / 2 / 2 ^ 31 = 0 := Nat.div_eq_of_lt (by omega)
      rw [h2, h3, h1]
      decide
    · have h3 : z / 2 / 2 ^ 31 = 0 := Nat.div_eq_of_lt (by omega)
      rw [h3]
      omega
  have hp : a % 2 = b % 2 := by rw [← top a ha, ← top b hb, h]
  have hh : a / 2 = b / 2 := by
    unfold stp at h
    rcases Nat.mod_two_eq_zero_or_one b with h0 | h0
    · rw [hp, h0] at h
      simpa using h
    · rw [hp, h0] at h
      simp only [if_true] at h
      exact xor_inj _ _ _ h
  omega
theorem stps_inj (k : Nat) : ∀ a b, a < 4294967296 → b < 4294967296 → stps k a = stps k b → a = b := by
  induction k with
  | zero => intro a b _ _ h; exact h
  | succ k ih => intro a b ha hb h; exact stp_inj a b ha hb (ih _ _ (stp_lt a ha) (stp_lt b hb) h)
theorem crcByte_inj (c d : Nat) (x y : UInt8) (hc : c < 4294967296) (hd : d < 4294967296) (h : crcByte c x = crcByte d y) : c ^^^ x.toNat = d ^^^ y.toNat :=
  stps_inj 8 _ _ (xor_lt32 _ _ hc (by have := x.toNat_lt; omega)) (xor_lt32 _ _ hd (by have := y.toNat_lt; omega)) h
theorem crcL_inj (l : List UInt8) : ∀ c d, c < 4294967296 → d < 4294967296 → crcL c l = crcL d l → c = d := by
  induction l with
  | nil => intro c d _ _ h; exact h
  | cons x r ih =>
    intro c d hc hd h
    have h1 : crcByte c x = crcByte d x := ih _ _ (crcByte_lt c x hc) (crcByte_lt d x hd) h
    exact xor_inj _ _ _ (crcByte_inj c d x x hc hd h1)
/-- ONE BYTE THAT IS ANOTHER ONE TURNS THE SUM. -/
theorem crc_other (p s : List UInt8) (x y : UInt8) (hxy : x ≠ y) : crc (p ++ x :: s) ≠ crc (p ++ y :: s) := by
  intro h
  have h1 := xor_inj _ _ _ h
  rw [crcL_append, crcL_append] at h1
  have hc := crcL_lt p 4294967295 (by decide)
  have h2 : crcByte (crcL 4294967295 p) x = crcByte (crcL 4294967295 p) y := crcL_inj s _ _ (crcByte_lt _ _ hc) (crcByte_lt _ _ hc) h1
  have h3 := crcByte_inj _ _ x y hc hc h2
  rw [Nat.xor_comm, Nat.xor_comm (crcL 4294967295 p)] at h3
  exact hxy (UInt8.toNat_inj.1 (xor_inj _ _ _ h3))
end Go.Proofs.YtagehnclkneolaaGreatDoor

/-
  Plain facts on numbers of seven bits a byte and on frames, told on lists of bytes: what is written is read back, all of it; what is read is written just so; a front of a number is too short.
-/
namespace Go.Proofs.YtagehnclkneolaaGreatDoor

def num (n : Nat) : List UInt8 := if n < 128 then [UInt8.ofNat n] else UInt8.ofNat (n % 128 + 128) :: num (n / 128)
termination_by n
decreasing_by omega

theorem num_lo (n : Nat) (h : n < 128) : num n = [UInt8.ofNat n] := by rw [num, if_pos h]
theorem num_hi (n : Nat) (h : ¬ n < 128) : num n = UInt8.ofNat (n % 128 + 128) :: num (n / 128) := by rw [num, if_neg h]
theorem toNat_ofC (n : Nat) (h : n < 256) : (UInt8.ofNat n).toNat = n := by
  rw [UInt8.toNat_ofNat']
  exact Nat.mod_eq_of_lt h
theorem of_toNat (x : UInt8) : UInt8.ofNat x.toNat = x := UInt8.ofNat_toNat

/-- What stands at the front: the number, how many bytes it has, the error (0: none). 'f' rounds are left behind 'i'. -/
def rdF : Nat → Nat → Nat → List UInt8 → Nat × Nat × Nat
  | 0, _, _, _ => (0, 0, 12)
  | _ + 1, _, _, [] => (0, 0, 11)
  | f + 1, i, v, c :: r =>
    if c.toNat < 128 then
      if (0 < i ∧ c.toNat = 0) ∨ (f = 0 ∧ 1 < c.toNat) then (0, 0, 12) else (v + c.toNat * 2 ^ (7 * i), i + 1, 0)
    else rdF f (i + 1) (v + (c.toNat - 128) * 2 ^ (7 * i)) r
def rdNum (l : List UInt8) : Nat × Nat × Nat := rdF 10 0 0 l

theorem pow_step (i : Nat) : 2 ^ (7 * (i + 1)) = 128 * 2 ^ (7 * i) := by
  rw [show 7 * (i + 1) = 7 * i + 7 from by omega, Nat.pow_add, Nat.mul_comm]

/-- WHAT IS WRITTEN IS READ. -/
theorem rdF_num (f : Nat) : ∀ (n i v : Nat) (b : List UInt8), n < 2 ^ (7 * f + 1) → (0 < i → 0 < n) → rdF (f + 1) i v (num n ++ b) = (v + n * 2 ^ (7 * i), i + (num n).length, 0) := by
  induction f with
  | zero =>
    intro n i v b hn hi
    have hn2 : n < 2 := by simpa using hn
    rw [num_lo n (by omega)]
    have ht : (UInt8.ofNat n).toNat = n := toNat_ofC n (by omega)
    simp only [List.cons_append, List.nil_append, rdF, ht, List.length_cons, List.length_nil]
    rw [if_pos (by omega), if_neg (by omega)]
  | succ f ih =>
    intro n i v b hn hi
    by_cases h : n < 128
    · rw [num_lo n h]
      have ht : (UInt8.ofNat n).toNat = n := toNat_ofC n (by omega)
      simp only [List.cons_append, List.nil_append, rdF, ht, List.length_cons, List.length_nil]
      rw [if_pos h, if_neg (by omega)]
    · rw [num_hi n h]
      have ht : (UInt8.ofNat (n % 128 + 128)).toNat = n % 128 + 128 := toNat_ofC _ (by omega)
      rw [List.cons_append, rdF, ht, if_neg (by omega), ih (n / 128) (i + 1) _ b (by
        have e : 2 ^ (7 * (f + 1) + 1) = 128 * 2 ^ (7 * f + 1) := by rw [show 7 * (f + 1) + 1 = 7 * f + 1 + 7 from by omega, Nat.pow_add, Nat.mul_comm]
        rw [e] at hn
        omega) (by omega)]
      rw [pow_step, List.length_cons]
      congr 1
      · have e1 : n % 128 + 128 - 128 = n % 128 := by omega
        have e2 : n = n % 128 + 128 * (n / 128) := (Nat.mod_add_div n 128).symm
        rw [e1]
        have e3 : n / 128 * (128 * 2 ^ (7 * i)) = 128 * (n / 128) * 2 ^ (7 * i) := by
          rw [← Nat.mul_assoc, Nat.mul_comm (n / 128) 128]
        rw [e3, Nat.add_assoc, ← Nat.add_mul, ← e2]
      · congr 1
        omega
theorem rdNum_num (n : Nat) (b : List UInt8) (hn : n < 18446744073709551616) : rdNum (num n ++ b) = (n, (num n).length, 0) := by
  have h := rdF_num 9 n 0 0 b (by simpa using hn) (by omega)
  simpa [rdNum] using h

theorem num_len_pos (n : Nat) : 1 ≤ (num n).length := by
  rw [num]
  split <;> simp
theorem num_len (f : Nat) : ∀ n, n < 2 ^ (7 * (f + 1)) → (num n).length ≤ f + 1 := by
  induction f with
  | zero =>
    intro n h
    rw [num_lo n (by simpa using h)]
    simp
  | succ f ih =>
    intro n h
    by_cases h1 : n < 128
    · rw [num_lo n h1]; simp
    · rw [num_hi n h1, List.length_cons]
      have := ih (n / 128) (by
        rw [pow_step] at h
        omega)
      omega
theorem num_len10 (n : Nat) (h : n < 18446744073709551616) : (num n).length ≤ 10 :=
  num_len 9 n (Nat.lt_of_lt_of_le h (by decide))
theorem num_mono (f : Nat) : ∀ a b, a ≤ b → b < 2 ^ (7 * (f + 1)) → (num a).length ≤ (num b).length := by
  induction f with
  | zero =>
    intro a b hab hb
    have hb' : b < 128 := by simpa using hb
    rw [num_lo b hb', num_lo a (by omega)]
    exact Nat.le_refl _
  | succ f ih =>
    intro a b hab hb
    by_cases h1 : a < 128
    · rw [num_lo a h1]
      exact num_len_pos b
    · rw [num_hi a h1, num_hi b (by omega), List.length_cons, List.length_cons]
      have := ih (a / 128) (b / 128) (by omega) (by
        rw [pow_step] at hb
        omega)
      omega
theorem num_mono64 (a b : Nat) (hab : a ≤ b) (hb : b < 18446744073709551616) : (num a).length ≤ (num b).length :=
  num_mono 9 a b hab (Nat.lt_of_lt_of_le hb (by decide))
/-- NO NUMBER's BYTES BEGIN ANOTHER ONE's. -/
theorem num_apart (a b : Nat) (ha : a < 18446744073709551616) (hb : b < 18446744073709551616) (h : num a = (num b).take (num a).length) : a = b := by
  have e : num b = num a ++ (num b).drop (num a).length := by
    have := List.take_append_drop (num a).length (num b)
    rw [← h] at this
    exact this.symm
  have h1 := rdNum_num a ((num b).drop (num a).length) ha
  rw [← e] at h1
  have h2 := rdNum_num b [] hb
  rw [List.append_nil, h1] at h2
  injection h2

/-- WHAT IS READ IS WRITTEN JUST SO. -/
theorem rdF_back (f : Nat) : ∀ (i v : Nat) (l : List UInt8) (w k : Nat), rdF (f + 1) i v l = (w, k, 0) →
    ∃ n, num n = l.take (k - i) ∧ w = v + n * 2 ^ (7 * i) ∧ i + 1 ≤ k ∧ k ≤ i + l.length ∧ n < 2 ^ (7 * f + 1) ∧ (0 < i → 0 < n) := by
  induction f with
  | zero =>
    intro i v l w k h
    cases l with
    | nil => simp [rdF] at h
    | cons c r =>
      rw [rdF] at h
      split at h
      · rename_i h1
        split at h
        · simp at h
        · rename_i h2
          simp only [Prod.mk.injEq] at h
          obtain ⟨rfl, rfl, _⟩ := h
          refine ⟨c.toNat, ?_, rfl, Nat.le_refl _, by simp, by simp; omega, by omega⟩
          rw [num_lo _ h1, of_toNat, show i + 1 - i = 1 from by omega]
          simp
      · simp [rdF] at h
  | succ f ih =>
    intro i v l w k h
    cases l with
    | nil => simp [rdF] at h
    | cons c r =>
      rw [rdF] at h
      split at h
      · rename_i h1
        split at h
        · simp at h
        · rename_i h2
          simp only [Prod.mk.injEq] at h
          obtain ⟨rfl, rfl, _⟩ := h
          refine ⟨c.toNat, ?_, rfl, Nat.le_refl _, by simp, ?_, by omega⟩
          · rw [num_lo _ h1, of_toNat, show i + 1 - i = 1 from by omega]
            simp
          · exact Nat.lt_of_lt_of_le h1 (Nat.pow_le_pow_right (n := 2) (i := 7) (by decide) (by omega))
      · rename_i h1
        obtain ⟨n, hn, hw, hk1, hk2, hlt, hpos⟩ := ih _ _ _ _ _ h
        have hc := c.toNat_lt
        have hp := hpos (by omega)
        refine ⟨n * 128 + (c.toNat - 128), ?_, ?_, by omega, by simp; omega, ?_, by omega⟩
        · rw [num_hi _ (by omega), show (n * 128 + (c.toNat - 128)) / 128 = n from by omega, show (n * 128 + (c.toNat - 128)) % 128 + 128 = c.toNat from by omega, of_toNat, hn,
            show k - i = k - (i + 1) + 1 from by omega, List.take_succ_cons]
        · rw [hw, pow_step, Nat.add_mul]
          have e : n * (128 * 2 ^ (7 * i)) = n * 128 * 2 ^ (7 * i) := (Nat.mul_assoc _ _ _).symm
          omega
        · have e : 2 ^ (7 * (f + 1) + 1) = 128 * 2 ^ (7 * f + 1) := by rw [show 7 * (f + 1) + 1 = 7 * f + 1 + 7 from by omega, Nat.pow_add, Nat.mul_comm]
          omega
theorem rdNum_back (l : List UInt8) (w k : Nat) (h : rdNum l = (w, k, 0)) : num w = l.take k ∧ 1 ≤ k ∧ k ≤ l.length ∧ w < 18446744073709551616 := by
  obtain ⟨n, hn, hw, hk, hk2, hlt, _⟩ := rdF_back 9 0 0 l w k h
  have e : w = n := by simpa using hw
  subst e
  exact ⟨by simpa using hn, by omega, by omega, by simpa using hlt⟩

/-- The error is one of three; beside it number and length are 0; the length is within the bytes. -/
theorem rdF_form (f : Nat) : ∀ (i v : Nat) (l : List UInt8), ((rdF f i v l).2.2 = 0 ∧ (rdF f i v l).2.1 ≤ i + l.length) ∨ rdF f i v l = (0, 0, 11) ∨ rdF f i v l = (0, 0, 12) := by
  induction f with
  | zero => intro i v l; exact .inr (.inr rfl)
  | succ f ih =>
    intro i v l
    cases l with
    | nil => exact .inr (.inl rfl)
    | cons c r =>
      rw [rdF]
      split
      · split
        · exact .inr (.inr rfl)
        · exact .inl ⟨rfl, by simp⟩
      · rcases ih (i + 1) (v + (c.toNat - 128) * 2 ^ (7 * i)) r with h | h | h
        · exact .inl ⟨h.1, by have := h.2; simp only [List.length_cons]; omega⟩
        · exact .inr (.inl h)
        · exact .inr (.inr h)
theorem rdNum_form (l : List UInt8) : (∃ v n, rdNum l = (v, n, 0) ∧ 1 ≤ n ∧ n ≤ l.length ∧ n ≤ 10 ∧ v < 18446744073709551616) ∨ rdNum l = (0, 0, 11) ∨ rdNum l = (0, 0, 12) := by
  rcases rdF_form 10 0 0 l with h | h | h
  · obtain ⟨v, n, e, hr⟩ : ∃ v n e, rdNum l = (v, n, e) := ⟨_, _, _, rfl⟩
    have he : e = 0 := by
      have := h.1
      rw [show rdF 10 0 0 l = rdNum l from rfl, hr] at this
      exact this
    subst he
    obtain ⟨h1, h2, h3, h4⟩ := rdNum_back l v n hr
    have h5 := num_len10 v h4
    rw [h1, List.length_take] at h5
    exact .inl ⟨v, n, hr, h2, h3, by omega, h4⟩
  · exact .inr (.inl h)
  · exact .inr (.inr h)

/-- A FRONT OF A NUMBER IS TOO SHORT. -/
theorem rdF_front (f : Nat) : ∀ (n i v j : Nat), n < 2 ^ (7 * f + 1) → j < (num n).length → rdF (f + 1) i v ((num n).take j) = (0, 0, 11) := by
  induction f with
  | zero =>
    intro n i v j hn hj
    rw [num_lo n (by simp at hn; omega)] at hj ⊢
    have : j = 0 := by simpa using hj
    subst this
    rfl
  | succ f ih =>
    intro n i v j hn hj
    cases j with
    | zero => rfl
    | succ j =>
      by_cases h : n < 128
      · rw [num_lo n h] at hj
        simp at hj
      · rw [num_hi n h] at hj ⊢
        have ht : (UInt8.ofNat (n % 128 + 128)).toNat = n % 128 + 128 := toNat_ofC _ (by omega)
        rw [List.take_succ_cons, rdF, ht, if_neg (by omega)]
        apply ih
        · have e : 2 ^ (7 * (f + 1) + 1) = 128 * 2 ^ (7 * f + 1) := by rw [show 7 * (f + 1) + 1 = 7 * f + 1 + 7 from by omega, Nat.pow_add, Nat.mul_comm]
          rw [e] at hn
          omega
        · simpa using hj
theorem rdNum_front (n j : Nat) (hn : n < 18446744073709551616) (hj : j < (num n).length) : rdNum ((num n).take j) = (0, 0, 11) :=
  rdF_front 9 n 0 0 j (by simpa using hn) hj
end Go.Proofs.YtagehnclkneolaaGreatDoor

/-
  Plain facts on frames: what a frame is; what stands at the front of any bytes; what is written is read back.
-/
namespace Go.Proofs.YtagehnclkneolaaGreatDoor

def four (s : Nat) : List UInt8 := [UInt8.ofNat (s % 256), UInt8.ofNat (s / 256 % 256), UInt8.ofNat (s / 65536 % 256), UInt8.ofNat (s / 16777216 % 256)]
def frame (l : List UInt8) : List UInt8 := num l.length ++ (four (crc l) ++ l)
def frames (ls : List (List UInt8)) : List UInt8 := (ls.map frame).flatten
/-- How many bytes the program makes roomC for. -/
def roomC (ls : List (List UInt8)) : Nat := ls.length * 14 + ls.flatten.length

theorem room_snoc (ls : List (List UInt8)) (l : List UInt8) : roomC (ls ++ [l]) = roomC ls + (14 + l.length) := by
  simp [roomC]
  omega
theorem frames_snoc (ls : List (List UInt8)) (l : List UInt8) : frames (ls ++ [l]) = frames ls ++ frame l := by
  simp [frames]
theorem frames_cons (ls : List (List UInt8)) (l : List UInt8) : frames (l :: ls) = frame l ++ frames ls := by
  simp [frames]
theorem frames_one (l : List UInt8) : frames [l] = frame l := by simp [frames]
theorem four_length (s : Nat) : (four s).length = 4 := rfl
theorem room_take (ls : List (List UInt8)) (k : Nat) : roomC (ls.take k) ≤ roomC ls := by
  have h1 : (ls.take k).length ≤ ls.length := List.length_take_le' _ _
  have h2 : (ls.take k).flatten.length + (ls.drop k).flatten.length = ls.flatten.length := by
    rw [← List.length_append, ← List.flatten_append, List.take_append_drop]
  unfold roomC
  omega
theorem frame_length (l : List UInt8) (h : l.length < 18446744073709551616) : (frame l).length ≤ 14 + l.length ∧ 5 + l.length ≤ (frame l).length := by
  have h1 := num_len10 l.length h
  have h2 := num_len_pos l.length
  simp only [frame, List.length_append, four_length]
  omega
theorem frames_length (ls : List (List UInt8)) (h : ls.flatten.length < 18446744073709551616) : (frames ls).length ≤ roomC ls := by
  induction ls with
  | nil => simp [frames, roomC]
  | cons l r ih =>
    simp only [List.flatten_cons, List.length_append] at h
    have h1 := ih (by omega)
    have h2 := (frame_length l (by omega)).1
    rw [frames_cons, List.length_append]
    simp only [roomC, List.length_cons, List.flatten_cons, List.length_append] at h1 ⊢
    omega
theorem flat_take (ls : List (List UInt8)) (k : Nat) : (ls.take k).flatten.length ≤ ls.flatten.length := by
  have h2 : (ls.take k).flatten.length + (ls.drop k).flatten.length = ls.flatten.length := by
    rw [← List.length_append, ← List.flatten_append, List.take_append_drop]
  omega
theorem flat_mem (ls : List (List UInt8)) (k : Nat) (l : List UInt8) (h : ls[k]? = some l) : l.length ≤ ls.flatten.length := by
  have hk : k < ls.length := (List.getElem?_eq_some_iff.1 h).1
  have h2 := flat_take ls (k + 1)
  rw [List.take_add_one, h] at h2
  simp at h2
  simp
  omega

/-- How many bytes all have. -/
def fln (ls : List (List UInt8)) : Nat := ls.flatten.length
theorem fln_snoc (ls : List (List UInt8)) (l : List UInt8) : fln (ls ++ [l]) = fln ls + l.length := by
  simp only [fln, List.flatten_append, List.flatten_cons, List.flatten_nil, List.append_nil, List.length_append]
theorem flatten_snoc (ls : List (List UInt8)) (l : List UInt8) : (ls ++ [l]).flatten = ls.flatten ++ l := by
  simp only [List.flatten_append, List.flatten_cons, List.flatten_nil, List.append_nil]
theorem fln_take (ls : List (List UInt8)) (k : Nat) : fln (ls.take k) ≤ fln ls := flat_take ls k

/-- Four bytes as a number. -/
def unfour (l : List UInt8) : Nat := (l.getD 0 0).toNat + (l.getD 1 0).toNat * 256 + (l.getD 2 0).toNat * 65536 + (l.getD 3 0).toNat * 16777216
theorem unfour_four (s : Nat) (r : List UInt8) (h : s < 4294967296) : unfour (four s ++ r) = s := by
  simp only [unfour, four, List.cons_append, List.getD_cons_zero, List.getD_cons_succ]
  rw [toNat_ofC _ (by omega), toNat_ofC _ (by omega), toNat_ofC _ (by omega), toNat_ofC _ (by omega)]
  omega
end Go.Proofs.YtagehnclkneolaaGreatDoor

/-
  Plain facts on what is read: lengths, bytes, frames, frames behind one another; what is written is read back; a front of frames.
-/
namespace Go.Proofs.YtagehnclkneolaaGreatDoor

def rdLen (l : List UInt8) (most extra : Nat) : Nat × Nat × Nat :=
  if (rdNum l).2.2 ≠ 0 then (0, 0, (rdNum l).2.2) else if most < (rdNum l).1 then (0, 0, 3) else if (rdNum l).1 + (rdNum l).2.1 + extra ≤ l.length then ((rdNum l).2.1, (rdNum l).1, 0) else (0, 0, 11)
theorem rdLen_err (l : List UInt8) (most extra e : Nat) (h : rdNum l = (0, 0, e)) (he : e ≠ 0) : rdLen l most extra = (0, 0, e) := by
  unfold rdLen
  rw [h, if_pos he]
theorem rdLen_long (l : List UInt8) (most extra v n : Nat) (h : rdNum l = (v, n, 0)) (hv : most < v) : rdLen l most extra = (0, 0, 3) := by
  unfold rdLen
  rw [h, if_neg (by simp), if_pos hv]
theorem rdLen_ok (l : List UInt8) (most extra v n : Nat) (h : rdNum l = (v, n, 0)) (hv : ¬ most < v) (hl : v + n + extra ≤ l.length) : rdLen l most extra = (n, v, 0) := by
  unfold rdLen
  rw [h, if_neg (by simp), if_neg hv, if_pos hl]
theorem rdLen_short (l : List UInt8) (most extra v n : Nat) (h : rdNum l = (v, n, 0)) (hv : ¬ most < v) (hl : ¬ v + n + extra ≤ l.length) : rdLen l most extra = (0, 0, 11) := by
  unfold rdLen
  rw [h, if_neg (by simp), if_neg hv, if_neg hl]
/-- Either a length within the bytes, or an error and zeros. -/
theorem rdLen_form (l : List UInt8) (most extra : Nat) :
    (∃ v n, rdLen l most extra = (n, v, 0) ∧ rdNum l = (v, n, 0) ∧ v ≤ most ∧ v + n + extra ≤ l.length ∧ 1 ≤ n ∧ n ≤ 10) ∨ ∃ e, rdLen l most extra = (0, 0, e) ∧ (e = 3 ∨ e = 11 ∨ e = 12) := by
  rcases rdNum_form l with ⟨v, n, h, h1, h2, h3, _⟩ | h | h
  · by_cases hv : most < v
    · exact .inr ⟨3, rdLen_long l most extra v n h hv, by omega⟩
    · by_cases hl : v + n + extra ≤ l.length
      · exact .inl ⟨v, n, rdLen_ok l most extra v n h hv hl, h, by omega, hl, h1, h3⟩
      · exact .inr ⟨11, rdLen_short l most extra v n h hv hl, by omega⟩
  · exact .inr ⟨11, rdLen_err l most extra 11 h (by decide), by omega⟩
  · exact .inr ⟨12, rdLen_err l most extra 12 h (by decide), by omega⟩

def rdBytes (l : List UInt8) (most : Nat) : List UInt8 × Nat × Nat :=
  if (rdLen l most 0).2.2 ≠ 0 then ([], 0, (rdLen l most 0).2.2) else ((l.drop (rdLen l most 0).1).take (rdLen l most 0).2.1, (rdLen l most 0).1 + (rdLen l most 0).2.1, 0)
theorem rdBytes_err (l : List UInt8) (most e : Nat) (h : rdLen l most 0 = (0, 0, e)) (he : e ≠ 0) : rdBytes l most = ([], 0, e) := by
  unfold rdBytes
  rw [h, if_pos he]
theorem rdBytes_ok (l : List UInt8) (most v n : Nat) (h : rdLen l most 0 = (n, v, 0)) : rdBytes l most = ((l.drop n).take v, n + v, 0) := by
  unfold rdBytes
  rw [h, if_neg (by simp)]

def rdFrame (l : List UInt8) : List UInt8 × Nat × Nat :=
  if (rdLen l 67108864 4).2.2 ≠ 0 then ([], 0, (rdLen l 67108864 4).2.2) else
  if crc ((l.drop ((rdLen l 67108864 4).1 + 4)).take (rdLen l 67108864 4).2.1) = unfour (l.drop (rdLen l 67108864 4).1) then
    ((l.drop ((rdLen l 67108864 4).1 + 4)).take (rdLen l 67108864 4).2.1, (rdLen l 67108864 4).1 + 4 + (rdLen l 67108864 4).2.1, 0)
  else ([], 0, 13)
theorem rdFrame_err (l : List UInt8) (e : Nat) (h : rdLen l 67108864 4 = (0, 0, e)) (he : e ≠ 0) : rdFrame l = ([], 0, e) := by
  unfold rdFrame
  rw [h, if_pos he]
theorem rdFrame_ok (l : List UInt8) (v n : Nat) (h : rdLen l 67108864 4 = (n, v, 0)) (hc : crc ((l.drop (n + 4)).take v) = unfour (l.drop n)) : rdFrame l = ((l.drop (n + 4)).take v, n + 4 + v, 0) := by
  unfold rdFrame
  rw [h, if_neg (by simp), if_pos hc]
theorem rdFrame_sum (l : List UInt8) (v n : Nat) (h : rdLen l 67108864 4 = (n, v, 0)) (hc : ¬ crc ((l.drop (n + 4)).take v) = unfour (l.drop n)) : rdFrame l = ([], 0, 13) := by
  unfold rdFrame
  rw [h, if_neg (by simp), if_neg hc]
/-- A frame within the bytes, or an error and zeros. -/
theorem rdFrame_form (l : List UInt8) : (∃ p n, rdFrame l = (p, n, 0) ∧ 5 ≤ n ∧ n ≤ l.length ∧ p.length + 5 ≤ n ∧ p.length ≤ 67108864) ∨ ∃ e, rdFrame l = ([], 0, e) ∧ (e = 3 ∨ e = 11 ∨ e = 12 ∨ e = 13) := by
  rcases rdLen_form l 67108864 4 with ⟨v, n, h, _, hv, hl, h1, h2⟩ | ⟨e, h, he⟩
  · by_cases hc : crc ((l.drop (n + 4)).take v) = unfour (l.drop n)
    · refine .inl ⟨_, _, rdFrame_ok l v n h hc, by omega, by omega, ?_, ?_⟩ <;> rw [List.length_take, List.length_drop] <;> omega
    · exact .inr ⟨13, rdFrame_sum l v n h hc, by omega⟩
  · exact .inr ⟨e, rdFrame_err l e h (by omega), by omega⟩

/-- Frames behind one another; 'f' is at least how many there may be. -/
def rdFs : Nat → List UInt8 → List (List UInt8) × Nat × Nat
  | 0, _ => ([], 0, 0)
  | f + 1, l =>
    if l = [] then ([], 0, 0) else
    if (rdFrame l).2.2 ≠ 0 then ([], 0, (rdFrame l).2.2) else
    ((rdFrame l).1 :: (rdFs f (l.drop (rdFrame l).2.1)).1, (rdFrame l).2.1 + (rdFs f (l.drop (rdFrame l).2.1)).2.1, (rdFs f (l.drop (rdFrame l).2.1)).2.2)
def rdFrames (l : List UInt8) : List (List UInt8) × Nat × Nat := rdFs l.length l
theorem rdFs_nil (f : Nat) : rdFs f [] = ([], 0, 0) := by
  cases f with
  | zero => rfl
  | succ f => rw [rdFs, if_pos rfl]
theorem rdFs_err (f : Nat) (l : List UInt8) (e : Nat) (hf : l.length ≤ f) (hl : l ≠ []) (h : rdFrame l = ([], 0, e)) (he : e ≠ 0) : rdFs f l = ([], 0, e) := by
  cases f with
  | zero =>
    have := List.length_pos_iff.2 hl
    omega
  | succ f => rw [rdFs, if_neg hl, h, if_pos he]
/-- More fuelC changes nothing. -/
theorem rdFs_fuel : ∀ (f g : Nat) (l : List UInt8), l.length ≤ f → l.length ≤ g → rdFs f l = rdFs g l := by
  intro f
  induction f with
  | zero =>
    intro g l hf _
    have : l = [] := List.eq_nil_of_length_eq_zero (by omega)
    subst this
    rw [rdFs_nil, rdFs_nil]
  | succ f ih =>
    intro g l hf hg
    by_cases hl : l = []
    · subst hl
      rw [rdFs_nil, rdFs_nil]
    · have hpos := List.length_pos_iff.2 hl
      cases g with
      | zero => omega
      | succ g =>
        rw [rdFs, rdFs, if_neg hl, if_neg hl]
        rcases rdFrame_form l with ⟨p, n, h, h1, h2, _⟩ | ⟨e, h, he⟩
        · rw [h]
          have hd : (l.drop n).length ≤ f := by rw [List.length_drop]; omega
          have hd2 : (l.drop n).length ≤ g := by rw [List.length_drop]; omega
          simp only [ih g (l.drop n) hd hd2]
        · rw [h, if_pos (by simp; omega), if_pos (by simp; omega)]
theorem rdFrames_nil : rdFrames [] = ([], 0, 0) := rfl
theorem rdFrames_err (l : List UInt8) (e : Nat) (hl : l ≠ []) (h : rdFrame l = ([], 0, e)) (he : e ≠ 0) : rdFrames l = ([], 0, e) := rdFs_err _ l e (Nat.le_refl _) hl h he
theorem rdFrames_ok (l p : List UInt8) (n : Nat) (hl : l ≠ []) (h : rdFrame l = (p, n, 0)) (hn : 1 ≤ n) : rdFrames l = (p :: (rdFrames (l.drop n)).1, n + (rdFrames (l.drop n)).2.1, (rdFrames (l.drop n)).2.2) := by
  have hpos := List.length_pos_iff.2 hl
  unfold rdFrames
  obtain ⟨f, hf⟩ : ∃ f, l.length = f + 1 := ⟨l.length - 1, by omega⟩
  rw [hf, rdFs, if_neg hl, h, if_neg (by simp)]
  simp only
  rw [rdFs_fuel f (l.drop n).length (l.drop n) (by rw [List.length_drop]; omega) (Nat.le_refl _)]
end Go.Proofs.YtagehnclkneolaaGreatDoor

/-
  A slice of bytes, told by a list of bytes: 'Rd w B v l': the value v is a slice of the bytes l whose cells lie below block B of the world w; a slice of slices, told by a list of lists: 'RdL'. What both survive.
-/
namespace Go.Proofs.YtagehnclkneolaaGreatDoor
open Go.RowKit

section
variable {w w' : World} {B B' : Nat} {v : Value} {l : List UInt8}
end

section
variable {w w' : World} {base : Nat} {v : Value} {l m : List UInt8}
end

section
variable {w w' : World} {B B' : Nat} {v : Value} {ls : List (List UInt8)}
end

/-- The two tables lie in their blocks. -/
def Tabs (w : World) : Prop :=
  (∀ i, i < 16 → w.cell? ⟨1, i, none⟩ = some (.int .u32 ((lowT.getD i 0 : Nat) : Int))) ∧ ∀ i, i < 16 → w.cell? ⟨2, i, none⟩ = some (.int .u32 ((highT.getD i 0 : Nat) : Int))
theorem Tabs.keep {w w' : World} (h : Tabs w) (hk : ∀ b off, b < 2 + 1 → w'.cell? ⟨b, off, none⟩ = w.cell? ⟨b, off, none⟩) : Tabs w' :=
  ⟨fun i hi => (hk 1 i (by omega)).trans (h.1 i hi), fun i hi => (hk 2 i (by omega)).trans (h.2 i hi)⟩
theorem Tabs.under {w w' : World} {B : Nat} (h : Tabs w) (hb : Below B w w') (hB : 2 + 1 ≤ B) : Tabs w' := h.keep fun b off hlt => below_cells hb b off (Nat.lt_of_lt_of_le hlt hB)
theorem Tabs.drewN {w : World} (h : Tabs w) (n : Nat) : Tabs (w.drewN n) := h
theorem Tabs.two {w : World} (h : Tabs w) : 2 + 1 ≤ w.heap.size := cell_lt (h.2 0 (by omega))
end Go.Proofs.YtagehnclkneolaaGreatDoor

/-
  append onto a row of bytes of the call's own, from whatever bytes: one law for the walk; what a new block of bytes reads as.
-/
namespace Go.Proofs.YtagehnclkneolaaGreatDoor
open Go.RowKit

end Go.Proofs.YtagehnclkneolaaGreatDoor

/-
  The walks over glacierref1.step, glacierref1.Sum and codec.Sum: each answers the CRC-32C.
-/
namespace Go.Proofs.YtagehnclkneolaaGreatDoor
open Go.RowKit

theorem and1 (z : Nat) (h : z < 4294967296) : bits .and .u32 (z : Int) 1 = (z : Int) % 2 := by
  have h1 := u32_and_nat z 1 h (by decide)
  rw [Nat.and_one_is_mod] at h1
  rw [Int.natCast_emod] at h1
  exact h1
theorem xorP (z : Nat) (h : z < 4294967296) : bits .xor .u32 ((z : Int) / 2) 2197175160 = ((z / 2 ^^^ 2197175160 : Nat) : Int) := by
  have h1 := u32_xor_nat (z / 2) 2197175160 (by omega) (by decide)
  rw [Int.natCast_ediv] at h1
  exact h1
theorem stp_odd (z : Nat) (h : z % 2 = 1) : stp z = z / 2 ^^^ 2197175160 := if_pos h
theorem stp_even (z : Nat) (h : ¬ z % 2 = 1) : stp z = z / 2 := if_neg h

set_option maxHeartbeats 400000 in
theorem sumStep_any (c : Nat) (x : UInt8) (w : World) (hc : c < 4294967296) :
    Calls Tryz.prog 80 #[.int .u32 (c : Int), .int .u8 (x.toNat : Int)] w fun e w' => e = .returned (.int .u32 (crcByte c x : Int)) ∧ w = w' := by
  have hx : x.toNat < 256 := x.toNat_lt
  have hxor : bits .xor .u32 (c : Int) (x.toNat : Int) = ((c ^^^ x.toNat : Nat) : Int) := u32_xor_nat _ _ hc (by omega)
  have hz : c ^^^ x.toNat < 4294967296 := xor_lt32 _ _ hc (by omega)
  go_enter Tryz.func80, Tryz.ntmps80
  go_wp2
  clear hxor
  have hz8 := stps_lt 8 _ hz
  generalize hy : c ^^^ x.toNat = y at *
  have HY := Lib.hid hy
  clear hy
  go_loop [0, 5] (fun t i => ∃ (k z : Nat), k ≤ 8 ∧ z < 4294967296 ∧ t = .int .u32 (z : Int) ∧ i = .int .i64 (k : Int) ∧ stps (8 - k) z = stps 8 y) (fun _ i => 8 - (intOf i).toNat)
  case atStart => exact ⟨0, y, by omega, hz, rfl, rfl, rfl⟩
  case round =>
    obtain ⟨k, z, hk, hz1, rfl, rfl, hs⟩ := hrel
    have HS := Lib.hid hs
    clear hs
    have hand := and1 z hz1
    have hst := stp_lt z hz1
    have hnext : k < 8 → stps (8 - (k + 1)) (stp z) = stps 8 y := fun h => by
      rw [← HS.out, show 8 - k = 8 - (k + 1) + 1 from by omega]
      rfl
    by_cases hlt : k < 8
    · have HN := Lib.hid (hnext hlt)
      clear hnext
      by_cases h1 : z % 2 = 1
      · have hb : (((z : Int) % 2) == 1) = true := by simp; omega
        have hx2 := xorP z hz1
        have HO := Lib.hid (stp_odd z h1)
        clear h1
        go_wp2
        go_round
        case rel => exact ⟨k + 1, stp z, by omega, hst, by rw [HO.out], by go_num, HN.out⟩
        case measure => simp [intOf]; omega
      · have hb : (((z : Int) % 2) == 1) = false := by simp; omega
        have HO := Lib.hid (stp_even z h1)
        clear h1
        go_wp2
        go_round
        case rel => exact ⟨k + 1, stp z, by omega, hst, by rw [HO.out]; go_num, by go_num, HN.out⟩
        case measure => simp [intOf]; omega
    · obtain rfl : k = 8 := by omega
      clear hnext
      go_wp2
      go_ret
      have e : z = crcByte c x := by
        unfold crcByte
        rw [HY.out, ← HS.out]
        rfl
      exact ⟨ret_nat e, rfl⟩

set_option maxHeartbeats 400000 in
theorem refSum_any (v : Value) (l : List UInt8) (B : Nat) (w : World) (h : Rd w B v l) :
    Calls Tryz.prog 42 #[v] w fun e w' => e = .returned (.int .u32 (crc l : Int)) ∧ w = w' := by
  obtain ⟨p, cap, rfl, hlc, hl47, hcm, hat⟩ := h.form
  clear h
  have HA := Lib.hid hat
  clear hat
  go_enter Tryz.func42, Tryz.ntmps42
  go_wp2
  go_loop [3, 4] (fun t i => ∃ k : Nat, k ≤ l.length ∧ t = .int .u32 (crcL 4294967295 (l.take k) : Int) ∧ i = .int .i64 (k : Int)) (fun _ i => l.length - (intOf i).toNat)
  case atStart => exact ⟨0, by omega, rfl, rfl⟩
  case round =>
    obtain ⟨k, hk, rfl, rfl⟩ := hrel
    have hclt := crcL_lt (l.take k) 4294967295 (by decide)
    by_cases hlt : k < l.length
    · obtain ⟨b, off, x, rfl, hb, hx, hc⟩ := HA.out k hlt
      have HX := Lib.hid (show crcL 4294967295 (l.take (k + 1)) = crcByte (crcL 4294967295 (l.take k)) x by rw [take_snoc l k x hx, crcL_snoc])
      clear hx
      generalize crcL 4294967295 (l.take k) = c at *
      go_wp2_with (go_at_call 80; refine (sumStep_any _ _ _ (by assumption)).mono ?_; rintro e w' ⟨rfl, rfl⟩)
      go_round
      case rel => exact ⟨k + 1, by omega, by rw [HX.out], by go_num⟩
      case measure => simp [intOf]; omega
    · obtain rfl : k = l.length := by omega
      have hcr := u32_xor_nat (crcL 4294967295 (l.take l.length)) 4294967295 hclt (by decide)
      have e : (crcL 4294967295 (l.take l.length) ^^^ 4294967295) = crc l := by rw [List.take_length]; rfl
      rw [e] at hcr
      have HC := Lib.hid hcr
      clear hcr e
      generalize crcL 4294967295 (l.take l.length) = c at *
      go_wp2
      go_ret
      exact ⟨ret_int HC.out, rfl⟩

theorem low_lt (i : Nat) : lowT.getD i 0 < 4294967296 := by
  by_cases h : i < 16
  · have all : ∀ j, j < 16 → lowT.getD j 0 < 4294967296 := by decide
    exact all i h
  · have hn : lowT[i]? = none := List.getElem?_eq_none (by show 16 ≤ i; omega)
    simp [List.getD, hn]
theorem high_lt (i : Nat) : highT.getD i 0 < 4294967296 := by
  by_cases h : i < 16
  · have all : ∀ j, j < 16 → highT.getD j 0 < 4294967296 := by decide
    exact all i h
  · have hn : highT[i]? = none := List.getElem?_eq_none (by show 16 ≤ i; omega)
    simp [List.getD, hn]
theorem ret_cast {k : IntKind} {a b : Nat} (h : a = b) : Value.int k (a : Int) = .int k (b : Int) := by rw [h]

set_option maxHeartbeats 400000 in
theorem sum_any (v : Value) (ls : List (List UInt8)) (B : Nat) (w : World) (h : RdL w B v ls) (ht : Tabs w) :
    Calls Tryz.prog 90 #[v] w fun e w' => e = .returned (.int .u32 (crc ls.flatten : Int)) ∧ ∃ n, w.drewN n = w' := by
  obtain ⟨p, cap, rfl, hlc, hl47, hcm, hat⟩ := h
  have HA := Lib.hid hat
  have HT := Lib.hid ht
  clear hat ht
  go_enter Tryz.func90, Tryz.ntmps90
  go_wp2
  go_loopw [3, 11] (fun t i wr => ∃ k n : Nat, k ≤ ls.length ∧ t = .int .u32 (crcL 4294967295 (ls.take k).flatten : Int) ∧ i = .int .i64 (k : Int) ∧ wr = w.drewN n) (fun _ i _ => ls.length - (intOf i).toNat)
  case atStart => exact ⟨0, 0, by omega, rfl, rfl, rfl⟩
  case round =>
    obtain ⟨k, n, hk, rfl, rfl, rfl⟩ := hrel
    by_cases hlt : k < ls.length
    · obtain ⟨b, off, u, rfl, hb, hc, hr⟩ := HA.out k _ (List.getElem?_eq_getElem hlt)
      have hfl : crcL 4294967295 (ls.take (k + 1)).flatten = crcL (crcL 4294967295 (ls.take k).flatten) ls[k] := by
        rw [take_snoc ls k _ (List.getElem?_eq_getElem hlt), List.flatten_append, crcL_append]
        simp
      have hc0 := crcL_lt (ls.take k).flatten 4294967295 (by decide)
      have HL := Lib.hid hfl
      clear hfl
      generalize ls[k] = l at *
      generalize crcL 4294967295 (ls.take k).flatten = c0 at *
      obtain ⟨p2, cap2, rfl, hlc2, hl472, hcm2, hat2⟩ := hr.form
      have HA2 := Lib.hid hat2
      clear hr hat2
      go_wp2
      go_loopw [3, 17] (fun t i wr => ∃ j m : Nat, j ≤ l.length ∧ t = .int .u32 (crcL c0 (l.take j) : Int) ∧ i = .int .i64 (j : Int) ∧ wr = w.drewN m) (fun _ i _ => l.length - (intOf i).toNat)
      case atStart => exact ⟨0, n, by omega, rfl, rfl, rfl⟩
      case round =>
        obtain ⟨j, m, hj, rfl, rfl, rfl⟩ := hrel
        by_cases hlt2 : j < l.length
        · obtain ⟨b2, off2, x, rfl, hb2, hx, hcx⟩ := HA2.out j hlt2
          have HX := Lib.hid (show crcL c0 (l.take (j + 1)) = crcByte (crcL c0 (l.take j)) x by rw [take_snoc l j x hx, crcL_snoc])
          have hclt := crcL_lt (l.take j) c0 hc0
          clear hx
          generalize crcL c0 (l.take j) = c at *
          have hx8 : x.toNat < 256 := x.toNat_lt
          have HB := Lib.hid (byTable c x)
          have hxor : bits .xor .u8 ((c : Int) % 256) (x.toNat : Int) = ((c % 256 ^^^ x.toNat : Nat) : Int) := by
            have h1 := u8_xor_nat (c % 256) x.toNat (by omega) hx8
            rw [Int.natCast_emod] at h1
            exact h1
          have hy : c % 256 ^^^ x.toNat < 256 := Nat.xor_lt_two_pow (n := 8) (by omega) hx8
          generalize c % 256 ^^^ x.toNat = y at *
          have hand : bits .and .u8 (y : Int) 15 = (y : Int) % 16 := u8_and15 _ (by omega) (by omega)
          have hlo := HT.out.1 (y % 16) (by omega)
          have hhi := HT.out.2 (y / 16) (by omega)
          have hL := low_lt (y % 16)
          have hH := high_lt (y / 16)
          generalize lowT.getD (y % 16) 0 = L at *
          generalize highT.getD (y / 16) 0 = H at *
          have hx1 := u32_xor_nat L H hL hH
          have hx2 := u32_xor_nat (L ^^^ H) (c / 256) (xor_lt32 _ _ hL hH) (by omega)
          rw [show ((c / 256 : Nat) : Int) = (c : Int) / 256 from by omega] at hx2
          go_wp2
          go_quiet (fail)
          go_wp2
          go_roundw
          case rel => exact ⟨j + 1, m + nq, by omega, ret_cast (by rw [HX.out, HB.out]), by go_num, by go_num⟩
          case measure => simp [intOf]; omega
        · go_wp2
          go_roundw
          case rel => exact ⟨k + 1, m, by omega, ret_cast (by rw [HL.out, List.take_of_length_le (by omega)]), by go_num, rfl⟩
          case measure => simp [intOf]; omega
    · have hcr := u32_xor_nat 4294967295 (crcL 4294967295 (ls.take k).flatten) (by decide) (crcL_lt _ _ (by decide))
      have e : (4294967295 ^^^ crcL 4294967295 (ls.take k).flatten) = crc ls.flatten := by rw [List.take_of_length_le (by omega), Nat.xor_comm]; rfl
      rw [e] at hcr
      have HC := Lib.hid hcr
      clear hcr e
      generalize crcL 4294967295 (ls.take k).flatten = c at *
      go_wp2
      go_ret
      exact ⟨ret_int HC.out, n, rfl⟩
end Go.Proofs.YtagehnclkneolaaGreatDoor

/-
  The walks over codec.appendNumber, codec.apart, codec.Number and glacierref1.Number: the bytes, and the number behind them.
-/
namespace Go.Proofs.YtagehnclkneolaaGreatDoor
open Go.RowKit

theorem or128 (m : Nat) : bits .or .u8 ((m : Int) % 256) 128 = ((UInt8.ofNat (m % 128 + 128)).toNat : Int) := by
  have h1 := u8_or_nat (m % 256) 128 (by omega) (by decide)
  have all : ∀ a, a < 256 → a ||| 128 = a % 128 + 128 := by decide +kernel
  rw [all _ (by omega), show ((m % 256 : Nat) : Int) = (m : Int) % 256 from by omega] at h1
  rw [toNat_ofC _ (by omega)]
  rw [show m % 256 % 128 = m % 128 from by omega] at h1
  exact h1

set_option maxRecDepth 100000 in
set_option maxHeartbeats 400000 in
theorem appendNumber_any (v : Value) (l : List UInt8) (n base : Nat) (w : World) (hn : n < 18446744073709551616) (hown : Own w base v l) (hbase : base ≤ w.heap.size) (hlen : l.length ≤ 140737488355300) :
    Calls Tryz.prog 105 #[v, .int .u64 (n : Int)] w fun e w' => ∃ v', e = .returned v' ∧ Own w' base v' (l ++ num n) ∧ Below base w w' := by
  have hnl := num_len10 n hn
  have HN0 := Lib.hid hn
  clear hn
  go_enter Tryz.func105, Tryz.ntmps105
  go_wp2
  go_loopw [0, 1] (fun b x wr => ∃ (m : Nat) (pre : List UInt8), x = .int .u64 (m : Int) ∧ m < 18446744073709551616 ∧ pre ++ num m = num n ∧ Own wr base b (l ++ pre) ∧ Below base w wr) (fun _ x _ => (intOf x).toNat)
  case atStart => exact ⟨n, [], rfl, HN0.out, rfl, by simpa using hown, Below.refl _ _⟩
  case round =>
    obtain ⟨m, pre, rfl, hm, hpre, hown1, hb1⟩ := hrel
    have hpl : pre.length + (num m).length ≤ 10 := by rw [← List.length_append, hpre]; exact hnl
    have HP := Lib.hid hpre
    have HM := Lib.hid hm
    clear hpre hm
    by_cases hlt : m < 128
    · have HN := Lib.hid (num_lo m hlt)
      go_wp2_with (at_builtin; refine wpList_append_rd rfl _ _ rfl base (wr.heap.size + 1) _ _ _ [UInt8.ofNat m] rfl (hown1.alloc _) rfl (Rd.new wr [UInt8.ofNat m] _ _ (by simp [bs, bv, toNat_ofC _ (show m < 256 by omega)]) (by simp)) (by simp; omega) (by have := hb1.size; simp; omega) ?_; intro v1 w1 hown2 hb2)
      go_ret
      refine ⟨v1, rfl, ?_, (hb1.alloc (by have := hb1.size; omega) _).trans hb2⟩
      rw [← HP.out, HN.out, ← List.append_assoc]
      exact hown2
    · obtain ⟨x, hor, HN⟩ : ∃ x : UInt8, bits .or .u8 ((m : Int) % 256) 128 = (x.toNat : Int) ∧ Hid (num m = x :: num (m / 128)) := ⟨_, or128 m, num_hi m hlt⟩
      go_wp2_with (at_builtin; refine wpList_append_rd rfl _ _ rfl base (wr.heap.size + 1) _ _ _ [x] rfl (hown1.alloc _) rfl (Rd.new wr [x] _ _ rfl (by simp)) (by simp; omega) (by have := hb1.size; simp; omega) ?_; intro v1 w1 hown2 hb2)
      go_roundw
      case rel =>
        refine ⟨m / 128, pre ++ [x], by go_num, by have := HM.out; omega, by rw [← HP.out, HN.out]; simp, by rw [← List.append_assoc]; exact hown2, (hb1.alloc (by have := hb1.size; omega) _).trans hb2⟩
      case measure => simp [intOf]; omega

set_option maxRecDepth 100000 in
set_option maxHeartbeats 400000 in
theorem refNumber_any (v : Value) (l : List UInt8) (n base : Nat) (w : World) (hn : n < 18446744073709551616) (hown : Own w base v l) (hbase : base ≤ w.heap.size) (hlen : l.length ≤ 140737488355300) :
    Calls Tryz.prog 61 #[v, .int .u64 (n : Int)] w fun e w' => ∃ v', e = .returned v' ∧ Own w' base v' (l ++ num n) ∧ Below base w w' := by
  have hnl := num_len10 n hn
  have HN0 := Lib.hid hn
  clear hn
  go_enter Tryz.func61, Tryz.ntmps61
  go_wp2
  go_loopw [0, 1] (fun b x wr => ∃ (m : Nat) (pre : List UInt8), x = .int .u64 (m : Int) ∧ m < 18446744073709551616 ∧ pre ++ num m = num n ∧ Own wr base b (l ++ pre) ∧ Below base w wr) (fun _ x _ => (intOf x).toNat)
  case atStart => exact ⟨n, [], rfl, HN0.out, rfl, by simpa using hown, Below.refl _ _⟩
  case round =>
    obtain ⟨m, pre, rfl, hm, hpre, hown1, hb1⟩ := hrel
    have hpl : pre.length + (num m).length ≤ 10 := by rw [← List.length_append, hpre]; exact hnl
    have HP := Lib.hid hpre
    have HM := Lib.hid hm
    clear hpre hm
    by_cases hlt : m < 128
    · have HN := Lib.hid (num_lo m hlt)
      go_wp2_with (at_builtin; refine wpList_append_rd rfl _ _ rfl base (wr.heap.size + 1) _ _ _ [UInt8.ofNat m] rfl (hown1.alloc _) rfl (Rd.new wr [UInt8.ofNat m] _ _ (by simp [bs, bv, toNat_ofC _ (show m < 256 by omega)]) (by simp)) (by simp; omega) (by have := hb1.size; simp; omega) ?_; intro v1 w1 hown2 hb2)
      go_ret
      refine ⟨v1, rfl, ?_, (hb1.alloc (by have := hb1.size; omega) _).trans hb2⟩
      rw [← HP.out, HN.out, ← List.append_assoc]
      exact hown2
    · obtain ⟨x, hor, HN⟩ : ∃ x : UInt8, bits .or .u8 ((m : Int) % 256) 128 = (x.toNat : Int) ∧ Hid (num m = x :: num (m / 128)) := ⟨_, or128 m, num_hi m hlt⟩
      go_wp2_with (at_builtin; refine wpList_append_rd rfl _ _ rfl base (wr.heap.size + 1) _ _ _ [x] rfl (hown1.alloc _) rfl (Rd.new wr [x] _ _ rfl (by simp)) (by simp; omega) (by have := hb1.size; simp; omega) ?_; intro v1 w1 hown2 hb2)
      go_roundw
      case rel =>
        refine ⟨m / 128, pre ++ [x], by go_num, by have := HM.out; omega, by rw [← HP.out, HN.out]; simp, by rw [← List.append_assoc]; exact hown2, (hb1.alloc (by have := hb1.size; omega) _).trans hb2⟩
      case measure => simp [intOf]; omega

set_option maxHeartbeats 400000 in
theorem apart_any (v : Value) (l : List UInt8) (more B : Nat) (w : World) (h : Rd w B v l) (hB : B ≤ w.heap.size) (hm : l.length + more ≤ 140737488355328) :
    Calls Tryz.prog 107 #[v, .int .i64 (more : Int)] w fun e w' => ∃ v', e = .returned v' ∧ Own w' w.heap.size v' l ∧ Below w.heap.size w w' := by
  obtain ⟨i0, hi, hz0, hz1, hz2⟩ := info_parts infoU8
  have hrd := h
  obtain ⟨p, cap, rfl, hlc, hl47, hcm, hat⟩ := h.form
  clear h hat
  have HR := Lib.hid hrd
  clear hrd
  go_enter Tryz.func107, Tryz.ntmps107
  go_wp2_with (first
    | (at_make; refine wpList_make_own _ rfl _ _ 22 rfl w.heap.size 5 i0 (.int .u8 0) 1 Tryz.underlying22 hi hz0 hz1 .i64 .i64 _ (l.length + more) rfl rfl (by omega) (by rw [hz2]; omega) (by unfold maxLen; omega) (Nat.le_refl _) ?_; intro w0 hown0 hg0)
    | (at_builtin; refine wpList_append_rd rfl _ _ rfl w.heap.size B _ _ [] l rfl (Own.of hown0 rfl rfl) rfl (HR.out.under ((Below.refl w.heap.size w).grown hg0 (Nat.le_refl _) (fun k hk => by cases hk)) hB) (by simp; omega) hg0.size ?_; intro v1 w1 hown1 hb1))
  go_ret
  exact ⟨v1, rfl, hown1, ((Below.refl w.heap.size w).grown hg0 (Nat.le_refl _) (fun k hk => by cases hk)).trans hb1⟩

set_option maxHeartbeats 400000 in
theorem number_any (v : Value) (l : List UInt8) (n B : Nat) (w : World) (hn : n < 18446744073709551616) (h : Rd w B v l) (hB : B ≤ w.heap.size) (hm : l.length ≤ 140737488355000) :
    Calls Tryz.prog 95 #[v, .int .u64 (n : Int)] w fun e w' => ∃ v', e = .returned v' ∧ Own w' w.heap.size v' (l ++ num n) ∧ Below w.heap.size w w' := by
  have HR := Lib.hid h
  have HN := Lib.hid hn
  clear h hn
  go_enter Tryz.func95, Tryz.ntmps95
  go_wp2_with fail
  refine (apart_any v l 10 B w HR.out hB (by omega)).mono ?_
  rintro e w1 ⟨v1, rfl, hown1, hb1⟩
  go_wp2_with fail
  refine (appendNumber_any v1 l n w.heap.size w1 HN.out hown1 hb1.size (by omega)).mono ?_
  rintro e w2 ⟨v2, rfl, hown2, hb2⟩
  go_wp2_with fail
  go_ret
  exact ⟨v2, rfl, hown2, hb1.trans hb2⟩
end Go.Proofs.YtagehnclkneolaaGreatDoor

/-
  The walks over codec.appendSum, codec.Frames, codec.Frame and their like in glacierref1.
-/
namespace Go.Proofs.YtagehnclkneolaaGreatDoor
open Go.RowKit

theorem Own.drewN {w : World} {base : Nat} {v : Value} {l : List UInt8} (h : Own w base v l) (n : Nat) : Own (w.drewN n) base v l := h
theorem RdL.one {w : World} {B : Nat} {u : Value} {l : List UInt8} (h : Rd w B u l) (hB : B ≤ w.heap.size) (t : TypeId) :
    RdL (w.alloc (.cells #[u] t)) (w.heap.size + 1) (.slice (some ⟨w.heap.size, 0, none⟩) 1 1) [l] := by
  refine ⟨_, _, rfl, by simp, by simp, by omega, fun k l' hl => ?_⟩
  obtain rfl : k = 0 := by
    have := (List.getElem?_eq_some_iff.1 hl).1
    simp at this
    omega
  obtain rfl : l = l' := by simpa using hl
  refine ⟨_, _, u, rfl, by omega, ?_, (h.under ((Below.refl w.heap.size w).alloc (Nat.le_refl _) _) hB).more (by omega)⟩
  rw [Nat.zero_add, cell_of_row _ _ _ _ _ _ (heap_alloc_new w (.cells #[u] t))]
  rfl
theorem below_alloc (w : World) (o : Obj) : Below w.heap.size w (w.alloc o) := (Below.refl _ _).alloc (Nat.le_refl _) o

theorem four_cells (s : Nat) (h : s < 4294967296) : #[Value.int .u8 ((s : Int) % 256), .int .u8 ((s : Int) / 256 % 256), .int .u8 ((s : Int) / 65536 % 256), .int .u8 ((s : Int) / 16777216)] = (bs (four s)).toArray := by
  have e0 : ((UInt8.ofNat (s % 256)).toNat : Int) = (s : Int) % 256 := by rw [toNat_ofC _ (by omega)]; omega
  have e1 : ((UInt8.ofNat (s / 256 % 256)).toNat : Int) = (s : Int) / 256 % 256 := by rw [toNat_ofC _ (by omega)]; omega
  have e2 : ((UInt8.ofNat (s / 65536 % 256)).toNat : Int) = (s : Int) / 65536 % 256 := by rw [toNat_ofC _ (by omega)]; omega
  have e3 : ((UInt8.ofNat (s / 16777216 % 256)).toNat : Int) = (s : Int) / 16777216 := by rw [toNat_ofC _ (by omega)]; omega
  unfold bs four bv
  simp only [List.map_cons, List.map_nil, e0, e1, e2, e3]

set_option maxHeartbeats 400000 in
theorem appendSum_any (v : Value) (l : List UInt8) (s base : Nat) (w : World) (hs : s < 4294967296) (hown : Own w base v l) (hbase : base ≤ w.heap.size) (hlen : l.length ≤ 140737488355300) :
    Calls Tryz.prog 106 #[v, .int .u32 (s : Int)] w fun e w' => ∃ v', e = .returned v' ∧ Own w' base v' (l ++ four s) ∧ Below base w w' := by
  go_enter Tryz.func106, Tryz.ntmps106
  go_wp2_with (at_builtin; refine wpList_append_rd rfl _ _ rfl base (w.heap.size + 1) _ _ _ (four s) rfl (hown.alloc _) rfl (Rd.new w (four s) _ _ (four_cells s hs) (by simp [four])) (by simp [four]; omega) (by simp; omega) ?_; intro v1 w1 hown2 hb2)
  go_ret
  exact ⟨v1, rfl, hown2, ((below_alloc w _).mono hbase).trans hb2⟩

set_option maxHeartbeats 400000 in
theorem refFour_any (v : Value) (l : List UInt8) (s base : Nat) (w : World) (hs : s < 4294967296) (hown : Own w base v l) (hbase : base ≤ w.heap.size) (hlen : l.length ≤ 140737488355300) :
    Calls Tryz.prog 62 #[v, .int .u32 (s : Int)] w fun e w' => ∃ v', e = .returned v' ∧ Own w' base v' (l ++ four s) ∧ Below base w w' := by
  go_enter Tryz.func62, Tryz.ntmps62
  go_wp2_with (at_builtin; refine wpList_append_rd rfl _ _ rfl base (w.heap.size + 1) _ _ _ (four s) rfl (hown.alloc _) rfl (Rd.new w (four s) _ _ (four_cells s hs) (by simp [four])) (by simp [four]; omega) (by simp; omega) ?_; intro v1 w1 hown2 hb2)
  go_ret
  exact ⟨v1, rfl, hown2, ((below_alloc w _).mono hbase).trans hb2⟩

set_option maxHeartbeats 400000 in
theorem frames_any (v : Value) (ls : List (List UInt8)) (B : Nat) (w : World) (h : RdL w B v ls) (hB : B ≤ w.heap.size) (ht : Tabs w) (hr : roomC ls ≤ 140737488355000) :
    Calls Tryz.prog 93 #[v] w fun e w' => ∃ v', e = .returned v' ∧ Own w' w.heap.size v' (frames ls) ∧ Below w.heap.size w w' := by
  obtain ⟨i0, hi, hz0, hz1, hz2⟩ := info_parts infoU8
  have hfr : ∀ k, (frames (ls.take k)).length ≤ 140737488355000 := fun k => by
    have h1 := frames_length (ls.take k) (by have h2 := room_take ls k; unfold roomC at h2 hr; omega)
    have h2 := room_take ls k
    omega
  have hel : ∀ (k : Nat) (l : List UInt8), ls[k]? = some l → l.length ≤ 140737488355000 := fun k l hl => by
    have h1 := flat_mem ls k l hl
    unfold roomC at hr
    omega
  obtain ⟨p, cap, rfl, hlc, hl47, hcm, hat⟩ := h
  have HA := Lib.hid hat
  have HT := Lib.hid ht
  have HF := Lib.hid hfr
  have HE := Lib.hid hel
  clear hat ht hfr hel
  go_enter Tryz.func93, Tryz.ntmps93
  go_wp2
  go_loop [3, 11] (fun t i => ∃ k : Nat, k ≤ ls.length ∧ t = .int .i64 (roomC (ls.take k) : Int) ∧ i = .int .i64 (k : Int)) (fun _ i => ls.length - (intOf i).toNat)
  case atStart => exact ⟨0, by omega, rfl, rfl⟩
  case round =>
    obtain ⟨k, hk, rfl, rfl⟩ := hrel
    have hrt := room_take ls k
    by_cases hlt : k < ls.length
    · obtain ⟨b, off, u, rfl, hb, hc, hrd⟩ := HA.out k _ (List.getElem?_eq_getElem hlt)
      have hrt2 := room_take ls (k + 1)
      have hsn : roomC (ls.take (k + 1)) = roomC (ls.take k) + (14 + ls[k].length) := by
        rw [take_snoc ls k _ (List.getElem?_eq_getElem hlt), room_snoc]
      rw [hsn] at hrt2
      have HS := Lib.hid hsn
      clear hsn
      generalize ls[k] = l at *
      generalize roomC (ls.take k) = R at *
      obtain ⟨p2, cap2, rfl, hlc2, hl472, hcm2, hat2⟩ := hrd.form
      clear hrd hat2
      go_wp2
      go_round
      case rel => exact ⟨k + 1, by omega, by rw [HS.out]; go_num, by go_num⟩
      case measure => simp [intOf]; omega
    · have e : roomC (ls.take k) = roomC ls := by rw [List.take_of_length_le (by omega)]
      rw [e] at *
      clear e hrt
      go_wp2_with (at_make; refine wpList_make_own _ rfl _ _ 22 rfl w.heap.size 5 i0 (.int .u8 0) 1 Tryz.underlying22 hi hz0 hz1 .i64 .i64 _ (roomC ls) rfl rfl (by omega) (by rw [hz2]; omega) (by unfold maxLen; omega) (Nat.le_refl _) ?_; intro w0 hown0 hg0)
      have hb0 : Below w.heap.size w w0 := (Below.refl w.heap.size w).grown hg0 (Nat.le_refl _) (fun k hk => by cases hk)
      have HO0 := Lib.hid (Own.of hown0 rfl rfl : Own w0 w.heap.size _ [])
      clear hown0 hg0 hi hz0 hz1 hz2
      go_loopw [6, 25] (fun t i wr => ∃ k : Nat, k ≤ ls.length ∧ i = .int .i64 (k : Int) ∧ Own wr w.heap.size t (frames (ls.take k)) ∧ Below w.heap.size w wr) (fun _ i _ => ls.length - (intOf i).toNat)
      case atStart => exact ⟨0, by omega, rfl, HO0.out, hb0⟩
      case round =>
        obtain ⟨k, hk, rfl, hown, hbw⟩ := hrel
        have hfk := HF.out k
        by_cases hlt : k < ls.length
        · obtain ⟨b, off, u, rfl, hb, hc, hrd⟩ := HA.out k _ (List.getElem?_eq_getElem hlt)
          have hc1 : wr.cell? ⟨b, off + k, none⟩ = some u := (below_cells hbw b _ (by omega)).trans hc
          have hrd1 : Rd wr B u ls[k] := hrd.under hbw hB
          have hl47b := HE.out k _ (List.getElem?_eq_getElem hlt)
          have hsn : frames (ls.take (k + 1)) = frames (ls.take k) ++ (num ls[k].length ++ (four (crc ls[k]) ++ ls[k])) := by
            rw [take_snoc ls k _ (List.getElem?_eq_getElem hlt), frames_snoc]
            rfl
          have hfk1 := HF.out (k + 1)
          rw [hsn] at hfk1
          simp only [List.length_append, four_length] at hfk1
          have HS := Lib.hid hsn
          clear hsn hc hrd
          generalize ls[k] = l at *
          generalize frames (ls.take k) = F at *
          have hsz := hbw.size
          have HR := Lib.hid hrd1
          obtain ⟨p2, cap2, rfl, hlc2, hl472, hcm2, hat2⟩ := hrd1.form
          clear hrd1 hat2
          go_wp2_with fail
          refine (appendNumber_any _ F l.length w.heap.size wr (by omega) hown hsz (by omega)).mono ?_
          rintro e w1 ⟨v1, rfl, hown1, hb1⟩
          have hnl := num_len10 l.length (by omega)
          have hsz1 := (hbw.trans hb1).size
          have HR1 : Hid (Rd w1 B _ l) := Lib.hid (HR.out.under hb1 hB)
          have HT1 : Hid (Tabs w1) := Lib.hid (HT.out.under (hbw.trans hb1) HT.out.two)
          go_wp2_with fail
          refine (sum_any _ [l] (w1.heap.size + 1) _ (RdL.one HR1.out (by omega) _) (HT1.out.under (below_alloc _ _) HT1.out.two)).mono ?_
          rintro e w2 ⟨rfl, n, rfl⟩
          rw [show [l].flatten = l from by simp]
          have hb2 : Below w.heap.size w1 ((w1.alloc (.cells #[.slice p2 l.length cap2] 22)).drewN n) := below_drewN ((below_alloc w1 _).mono hsz1) n
          have hsz2 := (hbw.trans (hb1.trans hb2)).size
          have hown2 : Own ((w1.alloc (.cells #[.slice p2 l.length cap2] 22)).drewN n) w.heap.size v1 (F ++ num l.length) := (hown1.alloc _).drewN n
          have HR2 : Hid (Rd ((w1.alloc (.cells #[.slice p2 l.length cap2] 22)).drewN n) B _ l) := Lib.hid (HR1.out.under hb2 hB)
          go_wp2_with fail
          refine (appendSum_any v1 _ (crc l) w.heap.size _ (crc_lt l) hown2 hsz2 (by simp; omega)).mono ?_
          rintro e w3 ⟨v3, rfl, hown3, hb3⟩
          have hsz3 := (hbw.trans (hb1.trans (hb2.trans hb3))).size
          have HR3 : Hid (Rd w3 B _ l) := Lib.hid (HR2.out.under hb3 hB)
          clear hown1 hown2 hown hb0
          go_wp2_with (at_builtin; refine wpList_append_rd rfl _ _ rfl w.heap.size B _ _ _ l rfl hown3 rfl HR3.out (by simp only [List.length_append, four_length]; omega) hsz3 ?_; intro v4 w4 hown4 hb4)
          go_roundw
          case rel => exact ⟨k + 1, by omega, by go_num, by rw [HS.out, ← List.append_assoc, ← List.append_assoc]; exact hown4, hbw.trans (hb1.trans (hb2.trans (hb3.trans hb4)))⟩
          case measure => simp [intOf]; omega
        · rw [List.take_of_length_le (by omega)] at hown
          go_wp2_with fail
          go_ret
          exact ⟨_, rfl, hown, hbw⟩

set_option maxHeartbeats 400000 in
theorem frame_any (v : Value) (l : List UInt8) (B : Nat) (w : World) (h : Rd w B v l) (hB : B ≤ w.heap.size) (ht : Tabs w) (hl : l.length ≤ 140737488354900) :
    Calls Tryz.prog 73 #[v] w fun e w' => ∃ v', e = .returned v' ∧ Own w' w.heap.size v' (frame l) ∧ Below w.heap.size w w' := by
  obtain ⟨p, cap, rfl, hlc, hl47, hcm, hat⟩ := h.form
  have HL := Lib.hid (RdL.one h hB 22)
  have HT := Lib.hid (ht.under (below_alloc w (.cells #[.slice p l.length cap] 22)) ht.two)
  clear h ht hat
  go_enter Tryz.func73, Tryz.ntmps73
  go_wp2_with fail
  refine (frames_any _ [l] (w.heap.size + 1) _ HL.out (by simp) HT.out (by simp [roomC]; omega)).mono ?_
  rintro e w1 ⟨v1, rfl, hown1, hb1⟩
  rw [frames_one] at hown1
  simp at hb1 hown1
  go_wp2_with fail
  go_ret
  exact ⟨v1, rfl, hown1.more (by omega), (below_alloc w _).trans (hb1.mono (by omega))⟩
end Go.Proofs.YtagehnclkneolaaGreatDoor
