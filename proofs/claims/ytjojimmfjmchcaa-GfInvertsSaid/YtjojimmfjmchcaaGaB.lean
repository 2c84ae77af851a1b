/-
  The walks over gf.Pow, gf.Div, gf.Log: powers, quotients, logarithms in the field of 256.
-/
import Derived.Test.YtjojimmfjmchcaaGaA
namespace Go.Proofs.Ytjojimmfjmchcaa
open Go.RowKit

theorem i64_bits (a b : Nat) (ha : a < 512) (hb : b < 512) : bits .xor .i64 (a : Int) (b : Int) = ((a ^^^ b : Nat) : Int) ∧ bits .and .i64 (a : Int) (b : Int) = ((a &&& b : Nat) : Int) := by
  have h1 : ∀ c : Nat, c < 512 → (BitVec.ofInt 64 (c : Int)).toNat = c := fun c hc => by
    rw [BitVec.ofInt_natCast, BitVec.toNat_ofNat]; exact Nat.mod_eq_of_lt (by omega)
  have hx : a ^^^ b < 2 ^ 9 := Nat.xor_lt_two_pow (by omega) (by omega)
  have hy : a &&& b < 2 ^ 9 := Nat.and_lt_two_pow _ (by omega)
  constructor
  · show IntKind.i64.wrap ((BitVec.ofInt 64 (a : Int) ^^^ BitVec.ofInt 64 (b : Int)).toNat : Int) = _
    rw [BitVec.toNat_xor, h1 a ha, h1 b hb, IntKind.wrap_i64]
    omega
  · show IntKind.i64.wrap ((BitVec.ofInt 64 (a : Int) &&& BitVec.ofInt 64 (b : Int)).toNat : Int) = _
    rw [BitVec.toNat_and, h1 a ha, h1 b hb, IntKind.wrap_i64]
    omega
theorem i64_and1 (a : Nat) (ha : a < 512) : bits .and .i64 (a : Int) 1 = ((a % 2 : Nat) : Int) := by
  have h := (i64_bits a 1 ha (by omega)).2
  rw [Nat.and_one_is_mod] at h
  exact h
/-- What Pow tells: the power, the error's number. -/
def powR (a : G8) (n : Int) : G8 × Int := if a = 0#8 then (if n < 0 then (0#8, 1) else if n = 0 then (1#8, 0) else (0#8, 0)) else (powZ a n, 0)
def divR (a b : G8) : G8 × Int := if b = 0#8 then (0#8, 1) else (mulG a (invG b), 0)
theorem powR_neg {n : Int} (h : n < 0) : powR 0#8 n = (0#8, 1) := by simp [powR, h]
theorem powR_nil : powR 0#8 0 = (1#8, 0) := by simp [powR]
theorem powR_pos {n : Int} (h : 0 < n) : powR 0#8 n = (0#8, 0) := by
  unfold powR
  rw [if_pos rfl, if_neg (by omega), if_neg (by omega)]
theorem powR_ne {a : G8} (h : a ≠ 0#8) (n : Int) : powR a n = (powZ a n, 0) := by unfold powR; rw [if_neg h]
theorem divR_nil (a : G8) : divR a 0#8 = (0#8, 1) := by simp [divR]
theorem divR_ne (a : G8) {b : G8} (h : b ≠ 0#8) : divR a b = (mulG a (invG b), 0) := by unfold divR; rw [if_neg h]
theorem nat_ne {a : G8} (h : a ≠ 0#8) : a.toNat ≠ 0 := fun e => h (BitVec.eq_of_toNat_eq (by rw [e]; rfl))
theorem pow_half (a : G8) : ∀ n, powG (mulG a a) n = powG a (2 * n)
  | 0 => rfl
  | n + 1 => by rw [powG, pow_half a n, show 2 * (n + 1) = 2 * n + 1 + 1 by omega, powG, powG, ← mul_assoc]
theorem pow_even (a : G8) (n : Nat) (h : n % 2 = 0) : powG (mulG a a) (n / 2) = powG a n := by rw [pow_half]; congr 1; omega
theorem pow_odd (p a : G8) (n : Nat) (h : n % 2 = 1) : mulG (mulG p a) (powG (mulG a a) (n / 2)) = mulG p (powG a n) := by
  rw [pow_half, ← mul_assoc]
  congr 1
  have h1 : n = 2 * (n / 2) + 1 := by omega
  rw [h1, powG, mul_comm, show (2 * (n / 2) + 1) / 2 = n / 2 by omega]
theorem rem_255 (n : Int) : ((n.tmod 255 + 255).tmod 255) = ((n % 255).toNat : Int) := by
  have h := tmod_255 n
  have h2 := Int.lt_tmod_of_pos n (show (0 : Int) < 255 by omega)
  have h3 := Int.tmod_lt_of_pos n (show (0 : Int) < 255 by omega)
  rw [Int.tmod_eq_emod_of_nonneg (by omega)]
  split at h <;> omega

set_option maxRecDepth 100000 in
theorem pow_any (w : World) (a : G8) (n : Int) (hn : -9223372036854775808 ≤ n ∧ n ≤ 9223372036854775807) :
    Calls Try.prog 14 #[.int .u8 (a.toNat : Int), .int .i64 n] w fun e w' => e = .returned (.tuple #[.int .u8 ((powR a n).1.toNat : Int), .int .i64 (powR a n).2]) ∧ w = w' := by
  by_cases h0 : a = 0#8
  · subst h0
    go_enter Try.func14, Try.ntmps14
    rcases Int.lt_trichotomy n 0 with h | h | h
    · rw [powR_neg h]
      have d1 : decide (n < 0) = true := decide_eq_true h
      go_wp2
      refine Go.bodyPost_ret (Go.results_tmp2 rfl _ _ _) rfl ?_
      exact ⟨rfl, rfl⟩
    · subst h
      rw [powR_nil]
      go_wp2
      refine Go.bodyPost_ret (Go.results_tmp2 rfl _ _ _) rfl ?_
      exact ⟨rfl, rfl⟩
    · rw [powR_pos h]
      have d1 : decide (n < 0) = false := decide_eq_false (by omega)
      have d2 : (n == 0) = false := by simp; omega
      go_wp2
      refine Go.bodyPost_ret (Go.results_tmp2 rfl _ _ _) rfl ?_
      exact ⟨rfl, rfl⟩
  · rw [powR_ne h0]
    have hA := nat_ne h0
    have hr := rem_255 n
    have hL : (n % 255).toNat < 255 := by omega
    obtain ⟨r, hr1⟩ : ∃ r, powZ a n = r := ⟨_, rfl⟩
    have HR : Hid (powG a (n % 255).toNat = r) := Lib.hid hr1
    rw [hr1]
    clear hr1 h0
    have hm1 := Int.tmod_lt_of_pos n (show (0 : Int) < 255 by omega)
    have hm2 := Int.lt_tmod_of_pos n (show (0 : Int) < 255 by omega)
    generalize (n % 255).toNat = L at *
    generalize hmm : n.tmod 255 = m at *
    have q0 : ((a.toNat : Int) == 0) = false := by simp; omega
    clear hA
    go_enter Try.func14, Try.ntmps14
    go_wp2
    go_loop [0, 6, 7] (fun x l p => ∃ (k : Nat) (a' p' : G8), k < 255 ∧ x = .int .u8 (a'.toNat : Int) ∧ l = .int .i64 (k : Int) ∧ p = .int .u8 (p'.toNat : Int) ∧ mulG p' (powG a' k) = r) (fun _ l _ => (intOf l).toNat)
    case atStart => exact ⟨L, a, 1#8, hL, rfl, rfl, rfl, by rw [one_mul]; exact HR.out⟩
    case round =>
      obtain ⟨k, a', p', hk, rfl, rfl, rfl, hm⟩ := hrel
      have HM := Lib.hid hm
      have hand := i64_and1 k (by omega)
      clear hm hr hmm hm1 hm2 hL q0
      by_cases hk0 : k = 0
      · subst hk0
        have h := HM.out
        rw [powG, mul_one] at h
        subst h
        clear hand
        go_wp2
        refine Go.bodyPost_ret (Go.results_tmp2 rfl _ _ _) rfl ?_
        exact ⟨rfl, rfl⟩
      · have d1 : decide (0 < k) = true := decide_eq_true (by omega)
        have d2 : decide ((0 : Int) < (k : Int)) = true := decide_eq_true (by omega)
        rcases Nat.mod_two_eq_zero_or_one k with h1 | h1
        · rw [h1] at hand
          have HE := Lib.hid (pow_even a' k h1)
          clear h1
          go_wp2_with fail
          refine (mul_any w a' a').mono ?_
          rintro e w' ⟨rfl, rfl⟩
          go_wp2_with fail
          go_round
          case rel => exact ⟨k / 2, mulG a' a', p', by omega, rfl, by go_num, rfl, by rw [HE.out]; exact HM.out⟩
          case measure => simp [intOf]; omega
        · rw [h1] at hand
          have HE := Lib.hid (pow_odd p' a' k h1)
          clear h1
          go_wp2_with fail
          refine (mul_any w p' a').mono ?_
          rintro e w' ⟨rfl, rfl⟩
          go_wp2_with fail
          refine (mul_any w a' a').mono ?_
          rintro e w' ⟨rfl, rfl⟩
          go_wp2_with fail
          go_round
          case rel => exact ⟨k / 2, mulG a' a', mulG p' a', by omega, rfl, by go_num, rfl, by rw [HE.out]; exact HM.out⟩
          case measure => simp [intOf]; omega
theorem powZ_inv (b : G8) : powZ b (-1) = invG b := rfl
theorem div_any (w : World) (a b : G8) :
    Calls Try.prog 12 #[.int .u8 (a.toNat : Int), .int .u8 (b.toNat : Int)] w fun e w' => e = .returned (.tuple #[.int .u8 ((divR a b).1.toNat : Int), .int .i64 (divR a b).2]) ∧ w = w' := by
  have HP := Lib.hid (pow_any w b (-1) (by omega))
  go_enter Try.func12, Try.ntmps12
  by_cases h0 : b = 0#8
  · subst h0
    rw [powR_neg (by omega)] at HP
    rw [divR_nil]
    go_wp2_with fail
    refine HP.out.mono ?_
    rintro e w' ⟨rfl, rfl⟩
    go_wp2_with fail
    refine Go.bodyPost_ret (Go.results_tmp2 rfl _ _ _) rfl ?_
    exact ⟨rfl, rfl⟩
  · rw [powR_ne h0, powZ_inv] at HP
    rw [divR_ne a h0]
    clear h0
    generalize invG b = c at *
    go_wp2_with fail
    refine HP.out.mono ?_
    rintro e w' ⟨rfl, rfl⟩
    go_wp2_with fail
    refine (mul_any w a c).mono ?_
    rintro e w' ⟨rfl, rfl⟩
    go_wp2_with fail
    refine Go.bodyPost_ret (Go.results_tmp2 rfl _ _ _) rfl ?_
    exact ⟨rfl, rfl⟩
theorem log_nil (w : World) : Calls Try.prog 16 #[.int .u8 0] w fun e w' => e = .returned (.tuple #[.int .i64 0, .int .i64 1]) ∧ w = w' := by
  go_enter Try.func16, Try.ntmps16
  go_wp2
  refine Go.bodyPost_ret (Go.results_tmp2 rfl _ _ _) rfl ?_
  exact ⟨rfl, rfl⟩
theorem log_any (w : World) (L : Nat) (hL : L < 255) : Calls Try.prog 16 #[.int .u8 ((expG L).toNat : Int)] w fun e w' => e = .returned (.tuple #[.int .i64 (L : Int), .int .i64 0]) ∧ w = w' := by
  have hA := nat_ne (exp_ne L)
  have q0 : (((expG L).toNat : Int) == 0) = false := by simp; omega
  clear hA
  have HL : Hid (∀ k, k ≤ L → ((((expG k).toNat : Int)) == (((expG L).toNat : Nat) : Int)) = decide (k = L)) := Lib.hid (fun k hk => by
    by_cases h : k = L
    · subst h; simp
    · have h1 : ¬ expG k = expG L := fun e => h (exp_inj (by omega) hL e)
      have h2 : ¬ (expG k).toNat = (expG L).toNat := fun e => h1 (BitVec.eq_of_toNat_eq e)
      rw [decide_eq_false h]
      simp
      omega)
  have hlt := (expG L).isLt
  obtain ⟨a, ha⟩ : ∃ a, (expG L).toNat = a := ⟨_, rfl⟩
  rw [ha] at q0 HL hlt
  rw [ha]
  clear ha
  go_enter Try.func16, Try.ntmps16
  go_wp2
  go_loop [4, 5] (fun n p => ∃ k : Nat, k ≤ L ∧ n = .int .i64 (k : Int) ∧ p = .int .u8 ((expG k).toNat : Int)) (fun n _ => L - (intOf n).toNat)
  case atStart => exact ⟨0, by omega, rfl, rfl⟩
  case round =>
    obtain ⟨k, hk, rfl, rfl⟩ := hrel
    have d1 := HL.out k hk
    by_cases h : k = L
    · rw [decide_eq_true h] at d1
      have HK := Lib.hid h
      clear h hk
      go_wp2_with fail
      refine Go.bodyPost_ret (Go.results_tmp2 rfl _ _ _) rfl ?_
      rw [HK.out]
      exact ⟨rfl, rfl⟩
    · rw [decide_eq_false h] at d1
      have HD := Lib.hid (double_any w (expG k))
      go_wp2_with fail
      refine HD.out.mono ?_
      rintro e w' ⟨rfl, rfl⟩
      go_wp2_with fail
      go_round
      case rel => exact ⟨k + 1, by omega, by go_num, rfl⟩
      case measure => simp [intOf]; omega
end Go.Proofs.Ytjojimmfjmchcaa
