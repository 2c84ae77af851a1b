/-
  Plain facts on the CRC-32C, told on natural numbers and lists of bytes: the two tables of sixteen words do what eight steps of one bit do; a remainder is known by what it becomes; so one bit that is another one turns the sum.
-/
import Derived.Laws.BitsAllLaws
namespace Go.Proofs.YtjhafhfneedmjaaDoor

def stp (z : Nat) : Nat := if z % 2 = 1 then z / 2 ^^^ 2197175160 else z / 2
def stps : Nat → Nat → Nat
  | 0, z => z
  | k + 1, z => stps k (stp z)
def crcByte (c : Nat) (x : UInt8) : Nat := stps 8 (c ^^^ x.toNat)
def crcL (c : Nat) (l : List UInt8) : Nat := l.foldl crcByte c
def crc (l : List UInt8) : Nat := crcL 4294967295 l ^^^ 4294967295

def lowT : List Nat := [0, 4067132163, 3778769143, 324072436, 3348797215, 904991772, 648144872, 3570033899, 2329499855, 2024987596, 1809983544, 2575936315, 1296289744, 3207089363, 2893594407, 1578318884]
def highT : List Nat := [0, 274646895, 549293790, 820201905, 1098587580, 1361435347, 1640403810, 1905808397, 2197175160, 2460548119, 2722870694, 2987750089, 3280807620, 3553878443, 3811616794, 4084100981]

theorem xor_mod2 (a b : Nat) : (a ^^^ b) % 2 = (a % 2 + b % 2) % 2 := by
  have h : (a ^^^ b) % 2 ^ 1 = a % 2 ^ 1 ^^^ b % 2 ^ 1 := Nat.xor_mod_two_pow
  simp only [Nat.pow_one] at h
  rw [h]
  rcases Nat.mod_two_eq_zero_or_one a with ha | ha <;> rcases Nat.mod_two_eq_zero_or_one b with hb | hb <;> rw [ha, hb] <;> decide
theorem xor_div2 (a b : Nat) : (a ^^^ b) / 2 = a / 2 ^^^ b / 2 := by
  have h : (a ^^^ b) / 2 ^ 1 = a / 2 ^ 1 ^^^ b / 2 ^ 1 := Nat.xor_div_two_pow
  simpa only [Nat.pow_one] using h
theorem xor_swap (a b p : Nat) : a ^^^ b ^^^ p = a ^^^ p ^^^ b := by
  rw [Nat.xor_assoc, Nat.xor_comm b p, ← Nat.xor_assoc]
theorem xor_undo (a p : Nat) : a ^^^ p ^^^ p = a := by
  rw [Nat.xor_assoc, Nat.xor_self, Nat.xor_zero]
theorem xor_inj (a b p : Nat) (h : a ^^^ p = b ^^^ p) : a = b := by
  rw [← xor_undo a p, h, xor_undo]
theorem xor_lt32 (a b : Nat) (ha : a < 4294967296) (hb : b < 4294967296) : a ^^^ b < 4294967296 := Nat.xor_lt_two_pow (n := 32) ha hb

theorem stp_xor (a b : Nat) : stp (a ^^^ b) = stp a ^^^ stp b := by
  unfold stp
  rw [xor_mod2, xor_div2]
  rcases Nat.mod_two_eq_zero_or_one a with ha | ha <;> rcases Nat.mod_two_eq_zero_or_one b with hb | hb <;> simp only [ha, hb] <;> simp
  · rw [Nat.xor_assoc]
  · rw [xor_swap]
  · rw [xor_swap (a / 2) 2197175160, ← Nat.xor_assoc, xor_undo]
theorem stps_xor (k : Nat) : ∀ a b, stps k (a ^^^ b) = stps k a ^^^ stps k b := by
  induction k with
  | zero => intro a b; rfl
  | succ k ih => intro a b; simp only [stps, stp_xor, ih]
theorem stps_mul (k : Nat) : ∀ m, stps k (m * 2 ^ k) = m := by
  induction k with
  | zero => intro m; simp [stps]
  | succ k ih =>
    intro m
    have e : m * 2 ^ (k + 1) = m * 2 ^ k * 2 := by rw [Nat.pow_succ, Nat.mul_assoc]
    have h : stp (m * 2 ^ (k + 1)) = m * 2 ^ k := by
      unfold stp
      rw [e, if_neg (by omega)]
      omega
    show stps k (stp (m * 2 ^ (k + 1))) = m
    rw [h, ih]
theorem split256 (z : Nat) : z = z / 256 * 2 ^ 8 ^^^ z % 256 := by
  apply Nat.eq_of_testBit_eq
  intro i
  have h8 : (z % 2 ^ 8).testBit i = (decide (i < 8) && z.testBit i) := Nat.testBit_mod_two_pow _ _ _
  have hd : z / 256 = z / 2 ^ 8 := rfl
  have hm : z % 256 = z % 2 ^ 8 := rfl
  rw [Nat.testBit_xor, hm, h8, hd, Nat.testBit_mul_two_pow, Nat.testBit_div_two_pow]
  by_cases h : i < 8
  · simp [h, show ¬ 8 ≤ i from by omega]
  · have : i - 8 + 8 = i := by omega
    simp [h, show 8 ≤ i from by omega, this]

set_option maxRecDepth 100000 in
theorem tab256 : ∀ a, a < 256 → stps 8 a = lowT.getD (a % 16) 0 ^^^ highT.getD (a / 16) 0 := by decide +kernel

theorem table (z : Nat) : stps 8 z = lowT.getD (z % 256 % 16) 0 ^^^ highT.getD (z % 256 / 16) 0 ^^^ z / 256 := by
  have h : stps 8 z = stps 8 (z / 256 * 2 ^ 8 ^^^ z % 256) := congrArg (stps 8) (split256 z)
  rw [h, stps_xor, stps_mul, tab256 (z % 256) (Nat.mod_lt _ (by decide)), Nat.xor_comm]

/-- A BYTE BY THE TABLES: what the program reckons. -/
theorem byTable (c : Nat) (x : UInt8) : crcByte c x = lowT.getD ((c % 256 ^^^ x.toNat) % 16) 0 ^^^ highT.getD ((c % 256 ^^^ x.toNat) / 16) 0 ^^^ c / 256 := by
  have hx : x.toNat < 256 := x.toNat_lt
  have hm : (c ^^^ x.toNat) % 256 = c % 256 ^^^ x.toNat := by
    have h : (c ^^^ x.toNat) % 2 ^ 8 = c % 2 ^ 8 ^^^ x.toNat % 2 ^ 8 := Nat.xor_mod_two_pow
    have e : x.toNat % 2 ^ 8 = x.toNat := Nat.mod_eq_of_lt hx
    rw [e] at h
    exact h
  have hd : (c ^^^ x.toNat) / 256 = c / 256 := by
    have h : (c ^^^ x.toNat) / 2 ^ 8 = c / 2 ^ 8 ^^^ x.toNat / 2 ^ 8 := Nat.xor_div_two_pow
    have e : x.toNat / 2 ^ 8 = 0 := Nat.div_eq_of_lt hx
    rw [e, Nat.xor_zero] at h
    exact h
  unfold crcByte
  rw [table, hm, hd]

theorem stp_lt (z : Nat) (h : z < 4294967296) : stp z < 4294967296 := by
  unfold stp
  split
  · exact xor_lt32 _ _ (by omega) (by decide)
  · omega
theorem stps_lt (k : Nat) : ∀ z, z < 4294967296 → stps k z < 4294967296 := by
  induction k with
  | zero => intro z h; exact h
  | succ k ih => intro z h; exact ih _ (stp_lt z h)
theorem stps_succ (k : Nat) : ∀ z, stps (k + 1) z = stp (stps k z) := by
  induction k with
  | zero => intro z; rfl
  | succ k ih => intro z; show stps (k + 1) (stp z) = _; rw [ih]; rfl
theorem crcByte_lt (c : Nat) (x : UInt8) (h : c < 4294967296) : crcByte c x < 4294967296 :=
  stps_lt 8 _ (xor_lt32 _ _ h (by have := x.toNat_lt; omega))
theorem crcL_lt (l : List UInt8) : ∀ c, c < 4294967296 → crcL c l < 4294967296 := by
  induction l with
  | nil => intro c h; exact h
  | cons x r ih => intro c h; exact ih _ (crcByte_lt c x h)
theorem crc_lt (l : List UInt8) : crc l < 4294967296 := xor_lt32 _ _ (crcL_lt l _ (by decide)) (by decide)
theorem crcL_append (c : Nat) (a b : List UInt8) : crcL c (a ++ b) = crcL (crcL c a) b := by simp [crcL]
theorem crcL_snoc (c : Nat) (a : List UInt8) (x : UInt8) : crcL c (a ++ [x]) = crcByte (crcL c a) x := by simp [crcL]

theorem stp_inj (a b : Nat) (ha : a < 4294967296) (hb : b < 4294967296) (h : stp a = stp b) : a = b := by
  have top : ∀ z, z < 4294967296 → stp z / 2 ^ 31 = z % 2 := by
    intro z hz
    unfold stp
    split
    · rename_i h1
      have h2 : (z / 2 ^^^ 2197175160) / 2 ^ 31 = z / 2 / 2 ^ 31 ^^^ 2197175160 / 2 ^ 31 := Nat.xor_div_two_pow
      have h3 : z / 2 / 2 ^ 31 = 0 := Nat.div_eq_of_lt (by omega)
      rw [h2, h3, h1]
      decide
    · have h3 : z / 2 / 2 ^ 31 = 0 := Nat.div_eq_of_lt (by omega)
      rw [h3]
      omega
  have hp : a % 2 = b % 2 := by rw [← top a ha, ← top b hb, h]
  have hh : a / 2 = b / 2 := by
    unfold stp at h
    rcases Nat.mod_two_eq_zero_or_one b with h0 | h0
    · rw [hp, h0] at h
      simpa using h
    · rw [hp, h0] at h
      simp only [if_true] at h
      exact xor_inj _ _ _ h
  omega
theorem stps_inj (k : Nat) : ∀ a b, a < 4294967296 → b < 4294967296 → stps k a = stps k b → a = b := by
  induction k with
  | zero => intro a b _ _ h; exact h
  | succ k ih => intro a b ha hb h; exact stp_inj a b ha hb (ih _ _ (stp_lt a ha) (stp_lt b hb) h)
theorem crcByte_inj (c d : Nat) (x y : UInt8) (hc : c < 4294967296) (hd : d < 4294967296) (h : crcByte c x = crcByte d y) : c ^^^ x.toNat = d ^^^ y.toNat :=
  stps_inj 8 _ _ (xor_lt32 _ _ hc (by have := x.toNat_lt; omega)) (xor_lt32 _ _ hd (by have := y.toNat_lt; omega)) h
theorem crcL_inj (l : List UInt8) : ∀ c d, c < 4294967296 → d < 4294967296 → crcL c l = crcL d l → c = d := by
  induction l with
  | nil => intro c d _ _ h; exact h
  | cons x r ih =>
    intro c d hc hd h
    have h1 : crcByte c x = crcByte d x := ih _ _ (crcByte_lt c x hc) (crcByte_lt d x hd) h
    exact xor_inj _ _ _ (crcByte_inj c d x x hc hd h1)
/-- ONE BYTE THAT IS ANOTHER ONE TURNS THE SUM. -/
theorem crc_other (p s : List UInt8) (x y : UInt8) (hxy : x ≠ y) : crc (p ++ x :: s) ≠ crc (p ++ y :: s) := by
  intro h
  have h1 := xor_inj _ _ _ h
  rw [crcL_append, crcL_append] at h1
  have hc := crcL_lt p 4294967295 (by decide)
  have h2 : crcByte (crcL 4294967295 p) x = crcByte (crcL 4294967295 p) y := crcL_inj s _ _ (crcByte_lt _ _ hc) (crcByte_lt _ _ hc) h1
  have h3 := crcByte_inj _ _ x y hc hc h2
  rw [Nat.xor_comm, Nat.xor_comm (crcL 4294967295 p)] at h3
  exact hxy (UInt8.toNat_inj.1 (xor_inj _ _ _ h3))
end Go.Proofs.YtjhafhfneedmjaaDoor
