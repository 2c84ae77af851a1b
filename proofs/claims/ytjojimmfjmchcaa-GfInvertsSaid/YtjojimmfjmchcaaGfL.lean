/-
  The field of 256, told plainly: powers of any number, logarithms.
-/
import Derived.Test.YtjojimmfjmchcaaGfK
namespace Go.Proofs.Ytjojimmfjmchcaa

/-- A power of any number: of one that is not 0 it goes round at 255. -/
def powZ (a : G8) (n : Int) : G8 := powG a (n % 255).toNat
theorem powZ_add {a : G8} (ha : a ≠ 0#8) (m n : Int) : mulG (powZ a m) (powZ a n) = powZ a (m + n) := by
  unfold powZ
  rw [← pow_add, pow_mod ha]
  congr 1
  omega
theorem powZ_zero (a : G8) : powZ a 0 = 1#8 := rfl
theorem powZ_neg {a : G8} (ha : a ≠ 0#8) (n : Int) : mulG (powZ a n) (powZ a (0 - n)) = 1#8 := by
  rw [powZ_add ha, show n + (0 - n) = 0 by omega, powZ_zero]
theorem pow_ne {a : G8} (ha : a ≠ 0#8) : ∀ n, powG a n ≠ 0#8
  | 0 => show (1#8 : G8) ≠ 0#8 by decide
  | n + 1 => mul_ne (pow_ne ha n) ha
theorem pow_nil : ∀ n, 0 < n → powG 0#8 n = 0#8
  | 0, h => by omega
  | n + 1, _ => mul_zero _
/-- The remainder as Go tells it, put right where it is below 0. -/
theorem tmod_255 (n : Int) : (if n.tmod 255 < 0 then n.tmod 255 + 255 else n.tmod 255) = n % 255 := by
  have h1 := Int.tmod_add_mul_tdiv n 255
  have h2 := Int.tmod_lt_of_pos n (show (0 : Int) < 255 by omega)
  have h3 := Int.lt_tmod_of_pos n (show (0 : Int) < 255 by omega)
  split <;> omega
theorem log_mul {p q r : Nat} {x y : G8} (hr : r < 255) (hx : expG p = x) (hy : expG q = y) (hz : expG r = mulG x y) : (p + q) % 255 = r := by
  rw [← hx, ← hy, exp_add, exp_mod (p + q)] at hz
  exact (exp_inj hr (Nat.mod_lt _ (by omega)) hz).symm
theorem exp_pow (n : Nat) : expG n = powG (expG 1) n := by rw [pow_exp, Nat.one_mul]
theorem exp_one : expG 1 = 2#8 := by decide
/-- The least number of doublings: what a search from 0 on comes to. -/
theorem log_least {a : G8} {n : Nat} (h : expG n = a) (hm : ∀ m, m < n → expG m ≠ a) : n < 255 := by
  rcases Nat.lt_or_ge n 255 with h1 | h1
  · exact h1
  · exfalso
    refine hm (n % 255) ?_ (by rw [← exp_mod]; exact h)
    have := Nat.mod_lt n (show 0 < 255 by omega)
    omega
end Go.Proofs.Ytjojimmfjmchcaa
