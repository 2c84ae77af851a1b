/-
  The walks over gf.Add, gf.double, gf.Mul: sums, doubles, products in the field of 256.
-/
import Derived.Test.YtjojimmfjmchcaaClR
import Derived.Test.YtjojimmfjmchcaaGfL
import Derived.WalkSpells
import Derived.BigQuiet
import Derived.Deep.QuietTactic
namespace Go.Proofs.Ytjojimmfjmchcaa
open Go.RowKit

theorem add_any (w : World) (a b : G8) : Calls Try.prog 18 #[.int .u8 (a.toNat : Int), .int .u8 (b.toNat : Int)] w fun e w' => e = .returned (.int .u8 ((a ^^^ b).toNat : Int)) ∧ w = w' := by
  have ha := a.isLt
  have hb := b.isLt
  have hx : bits .xor .u8 (a.toNat : Int) (b.toNat : Int) = ((a.toNat ^^^ b.toNat : Nat) : Int) := u8_xor_nat _ _ ha hb
  rw [BitVec.toNat_xor]
  generalize a.toNat = x at *
  generalize b.toNat = y at *
  go_enter Try.func18, Try.ntmps18
  go_wp2
  go_ret
  exact ⟨rfl, rfl⟩
theorem dbl_bits (a : G8) : bits .xor .u8 ((a.toNat : Int) * 2 % 256) ((a.toNat : Int) / 128 * 29) = ((dblG a).toNat : Int) := by
  have h : ∀ a : G8, (a.toNat * 2 % 256) ^^^ (a.toNat / 128 * 29) = (dblG a).toNat := fun a => by
    refine all_eight (p := fun a => (a.toNat * 2 % 256) ^^^ (a.toNat / 128 * 29) = (dblG a).toNat) ?_ a
    decide +kernel
  have ha := a.isLt
  rw [← h a]
  have h2 := u8_xor_nat (a.toNat * 2 % 256) (a.toNat / 128 * 29) (by omega) (by omega)
  simpa using h2
theorem double_any (w : World) (a : G8) : Calls Try.prog 40 #[.int .u8 (a.toNat : Int)] w fun e w' => e = .returned (.int .u8 ((dblG a).toNat : Int)) ∧ w = w' := by
  have ha := a.isLt
  have hd := dbl_bits a
  go_enter Try.func40, Try.ntmps40
  go_wp2
  go_ret
  exact ⟨by rw [← hd]; rfl, rfl⟩

theorem bxor (x y : G8) : bits .xor .u8 (x.toNat : Int) (y.toNat : Int) = ((x ^^^ y).toNat : Int) := by
  rw [BitVec.toNat_xor]
  exact u8_xor_nat _ _ x.isLt y.isLt
def bitG (b : G8) (k : Nat) (a : G8) : G8 := if (b >>> k).getLsbD 0 = true then a else 0#8
theorem bit_mul (b a : G8) (k : Nat) : bits .and .u8 ((b.toNat : Int) / 2 ^ k) 1 * (a.toNat : Int) % 256 = ((bitG b k a).toNat : Int) := by
  have ha := a.isLt
  have hb := b.isLt
  have h1 : ((b.toNat : Int) / 2 ^ k) = (((b >>> k).toNat : Nat) : Int) := by
    rw [BitVec.toNat_ushiftRight, Nat.shiftRight_eq_div_pow]
    simp
  have h2 := (b >>> k).isLt
  rw [h1]
  have h3 := u8_and_nat (b >>> k).toNat 1 h2 (by decide)
  rw [Nat.and_one_is_mod] at h3
  have h4 : bits .and .u8 (((b >>> k).toNat : Nat) : Int) 1 = (((b >>> k).toNat % 2 : Nat) : Int) := h3
  rw [h4]
  unfold bitG
  rw [odd_nat]
  rcases Nat.mod_two_eq_zero_or_one (b >>> k).toNat with h5 | h5
  · rw [h5]; simp
  · rw [h5]; simp; omega
theorem mulL_step (a b p : G8) (k : Nat) (hk : k < 8) : (p ^^^ bitG b k a) ^^^ mulL (8 - (k + 1)) (dblG a) (b >>> (k + 1)) = p ^^^ mulL (8 - k) a (b >>> k) := by
  rw [show 8 - k = 8 - (k + 1) + 1 by omega, mulL, BitVec.xor_assoc]
  congr 2
theorem mul_any (w : World) (a b : G8) : Calls Try.prog 19 #[.int .u8 (a.toNat : Int), .int .u8 (b.toNat : Int)] w fun e w' => e = .returned (.int .u8 ((mulG a b).toNat : Int)) ∧ w = w' := by
  have hb := b.isLt
  go_enter Try.func19, Try.ntmps19
  go_wp2
  go_loop [0, 5, 7] (fun x p i => ∃ (k : Nat) (a' p' : G8), k ≤ 8 ∧ x = .int .u8 (a'.toNat : Int) ∧ p = .int .u8 (p'.toNat : Int) ∧ i = .int .i64 (k : Int) ∧ p' ^^^ mulL (8 - k) a' (b >>> k) = mulG a b) (fun _ _ i => 8 - (intOf i).toNat)
  case atStart => exact ⟨0, a, 0#8, by omega, rfl, rfl, rfl, by rw [BitVec.zero_xor]; rfl⟩
  case round =>
    obtain ⟨k, a', p', hk, rfl, rfl, rfl, hm⟩ := hrel
    have ha' := a'.isLt
    have HM := Lib.hid hm
    clear hm
    by_cases hlt : k < 8
    · go_wp2
      rw [bit_mul, bxor, dbl_bits]
      exact ⟨⟨k + 1, dblG a', p' ^^^ bitG b k a', by omega, rfl, rfl, by go_num, (mulL_step a' b p' k hlt).trans HM.out⟩, by simp [intOf]; omega⟩
    · obtain rfl : k = 8 := by omega
      go_wp2
      go_ret
      have h := HM.out
      rw [Nat.sub_self, mulL, BitVec.xor_zero] at h
      rw [h]
      exact ⟨rfl, rfl⟩
end Go.Proofs.Ytjojimmfjmchcaa
