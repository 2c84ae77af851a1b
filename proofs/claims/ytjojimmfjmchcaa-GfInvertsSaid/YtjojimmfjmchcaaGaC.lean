/-
  The walks over the reference's products, inverses, quotients, powers, logarithms in the field of 256.
-/
import Derived.Test.YtjojimmfjmchcaaGaB
namespace Go.Proofs.Ytjojimmfjmchcaa
open Go.RowKit

theorem rmul_any (w : World) (a b : G8) : Calls Try.prog 20 #[.int .u8 (a.toNat : Int), .int .u8 (b.toNat : Int)] w fun e w' => e = .returned (.int .u8 ((mulG a b).toNat : Int)) ∧ w = w' := by
  have ha := a.isLt
  have hb := b.isLt
  go_enter Try.func20, Try.ntmps20
  go_wp2
  go_loop [5, 6, 7] (fun p x y => ∃ (n : Nat) (x' y' p' : G8), y'.toNat < 2 ^ n ∧ p = .int .i64 (p'.toNat : Int) ∧ x = .int .i64 (x'.toNat : Int) ∧ y = .int .i64 (y'.toNat : Int) ∧ p' ^^^ mulL n x' y' = mulG a b) (fun _ _ y => (intOf y).toNat)
  case atStart => exact ⟨8, a, b, 0#8, hb, rfl, rfl, rfl, by rw [BitVec.zero_xor]; rfl⟩
  case round =>
    obtain ⟨n, x, y, p, hy, rfl, rfl, rfl, hm⟩ := hrel
    have hx := x.isLt
    have hyl := y.isLt
    have hp := p.isLt
    by_cases h0 : y.toNat = 0
    · have hy0 : y = 0#8 := BitVec.eq_of_toNat_eq (by rw [h0]; rfl)
      subst hy0
      rw [mulL_nil, BitVec.xor_zero] at hm
      subst hm
      clear h0 hy
      go_wp2
      go_ret
      exact ⟨rfl, rfl⟩
    · have d1 : decide ((0 : Int) < (y.toNat : Int)) = true := decide_eq_true (by omega)
      have d2 : decide (0 < y.toNat) = true := decide_eq_true (by omega)
      obtain ⟨n, rfl⟩ : ∃ m, n = m + 1 := ⟨n - 1, by
        cases n with
        | zero => simp at hy; omega
        | succ m => omega⟩
      have hand := i64_and1 y.toNat (by omega)
      have hhalf := half_nat y
      have hdbl := dbl_nat x
      rw [mulL, odd_nat] at hm
      have hn : (y >>> 1).toNat < 2 ^ n := by
        rw [hhalf]
        rw [Nat.pow_succ] at hy
        omega
      have HX := Lib.hid (And.intro hm (And.intro hn hhalf))
      have HX2 := Lib.hid (i64_bits (2 * x.toNat) 285 (by omega) (by omega)).1
      clear hm hn hhalf hy
      rcases Nat.mod_two_eq_zero_or_one y.toNat with h1 | h1
      all_goals rw [h1] at hand
      all_goals by_cases h2 : 256 ≤ 2 * x.toNat
      all_goals (first | rw [if_pos h2] at hdbl | rw [if_neg h2] at hdbl)
      · have d3 : decide ((256 : Int) ≤ (x.toNat : Int) * 2) = true := decide_eq_true (by omega)
        have hx2 : bits .xor .i64 ((x.toNat : Int) * 2) 285 = ((dblG x).toNat : Int) := by
          rw [hdbl, ← HX2.out]; congr 1; push_cast; omega
        have HD := Lib.hid (And.intro h0 h1)
        have HZ : Hid (((dblG x).toNat : Int) = ((dblG x).toNat : Int)) := Lib.hid rfl
        clear h1 h2 hdbl h0
        go_wp2
        go_round
        case rel => exact ⟨n, dblG x, y >>> 1, p, HX.out.2.1, rfl, by rw [HZ.out], by rw [HX.out.2.2]; go_num, by have h := HX.out.1; rw [if_neg (by rw [HD.out.2]; simp), BitVec.zero_xor] at h; exact h⟩
        case measure => have := HD.out.1; simp [intOf]; omega
      · have d3 : decide ((256 : Int) ≤ (x.toNat : Int) * 2) = false := decide_eq_false (by omega)
        have HD := Lib.hid (And.intro h0 h1)
        have HZ : Hid (((x.toNat : Int) * 2) = ((dblG x).toNat : Int)) := Lib.hid (by omega)
        clear h1 h2 hdbl h0
        go_wp2
        go_round
        case rel => exact ⟨n, dblG x, y >>> 1, p, HX.out.2.1, rfl, by rw [HZ.out], by rw [HX.out.2.2]; go_num, by have h := HX.out.1; rw [if_neg (by rw [HD.out.2]; simp), BitVec.zero_xor] at h; exact h⟩
        case measure => have := HD.out.1; simp [intOf]; omega
      · have d3 : decide ((256 : Int) ≤ (x.toNat : Int) * 2) = true := decide_eq_true (by omega)
        have hx2 : bits .xor .i64 ((x.toNat : Int) * 2) 285 = ((dblG x).toNat : Int) := by
          rw [hdbl, ← HX2.out]; congr 1; push_cast; omega
        have HD := Lib.hid (And.intro h0 h1)
        have HZ : Hid (((dblG x).toNat : Int) = ((dblG x).toNat : Int)) := Lib.hid rfl
        clear h1 h2 hdbl h0
        have hxo : bits .xor .i64 (p.toNat : Int) (x.toNat : Int) = ((p ^^^ x).toNat : Int) := by
          rw [BitVec.toNat_xor]; exact (i64_bits _ _ (by omega) (by omega)).1
        go_wp2
        go_round
        case rel => exact ⟨n, dblG x, y >>> 1, p ^^^ x, HX.out.2.1, rfl, by rw [HZ.out], by rw [HX.out.2.2]; go_num, by have h := HX.out.1; rw [if_pos (by rw [HD.out.2]; rfl), ← BitVec.xor_assoc] at h; exact h⟩
        case measure => have := HD.out.1; simp [intOf]; omega
      · have d3 : decide ((256 : Int) ≤ (x.toNat : Int) * 2) = false := decide_eq_false (by omega)
        have HD := Lib.hid (And.intro h0 h1)
        have HZ : Hid (((x.toNat : Int) * 2) = ((dblG x).toNat : Int)) := Lib.hid (by omega)
        clear h1 h2 hdbl h0
        have hxo : bits .xor .i64 (p.toNat : Int) (x.toNat : Int) = ((p ^^^ x).toNat : Int) := by
          rw [BitVec.toNat_xor]; exact (i64_bits _ _ (by omega) (by omega)).1
        go_wp2
        go_round
        case rel => exact ⟨n, dblG x, y >>> 1, p ^^^ x, HX.out.2.1, rfl, by rw [HZ.out], by rw [HX.out.2.2]; go_num, by have h := HX.out.1; rw [if_pos (by rw [HD.out.2]; rfl), ← BitVec.xor_assoc] at h; exact h⟩
        case measure => have := HD.out.1; simp [intOf]; omega
theorem mul_two (a : G8) : mulG a 2#8 = dblG a := by
  rw [mul_comm, show (2#8 : G8) = dblG 1#8 from by decide, mul_dbl, one_mul]
theorem rinv_any (w : World) (a : G8) : Calls Try.prog 38 #[.int .u8 (a.toNat : Int)] w fun e w' => e = .returned (.int .u8 ((invG a).toNat : Int)) ∧ w = w' := by
  go_enter Try.func38, Try.ntmps38
  go_wp2
  go_loop [3, 4] (fun p i => ∃ k : Nat, k ≤ 254 ∧ p = .int .u8 ((powG a k).toNat : Int) ∧ i = .int .i64 (k : Int)) (fun _ i => 254 - (intOf i).toNat)
  case atStart => exact ⟨0, by omega, rfl, rfl⟩
  case round =>
    obtain ⟨k, hk, rfl, rfl⟩ := hrel
    by_cases hlt : k < 254
    · have d1 : decide ((k : Int) < 254) = true := decide_eq_true (by omega)
      have HM := Lib.hid (rmul_any w (powG a k) a)
      go_wp2_with fail
      refine HM.out.mono ?_
      rintro e w' ⟨rfl, rfl⟩
      go_wp2_with fail
      go_round
      case rel => exact ⟨k + 1, by omega, rfl, by go_num⟩
      case measure => simp [intOf]; omega
    · obtain rfl : k = 254 := by omega
      generalize hr : powG a 254 = r
      have HR := Lib.hid hr
      clear hr
      go_wp2_with fail
      go_ret
      unfold invG
      rw [HR.out]
      exact ⟨rfl, rfl⟩
theorem rdiv_any (w : World) (a b : G8) :
    Calls Try.prog 13 #[.int .u8 (a.toNat : Int), .int .u8 (b.toNat : Int)] w fun e w' => e = .returned (.tuple #[.int .u8 ((divR a b).1.toNat : Int), .int .i64 (divR a b).2]) ∧ w = w' := by
  go_enter Try.func13, Try.ntmps13
  by_cases h0 : b = 0#8
  · subst h0
    rw [divR_nil]
    go_wp2_with fail
    refine Go.bodyPost_ret (Go.results_tmp2 rfl _ _ _) rfl ?_
    exact ⟨rfl, rfl⟩
  · rw [divR_ne a h0]
    have hA := nat_ne h0
    have q0 : ((b.toNat : Int) == 0) = false := by simp; omega
    clear h0 hA
    have HI := Lib.hid (rinv_any w b)
    generalize invG b = c at *
    go_wp2_with fail
    refine HI.out.mono ?_
    rintro e w' ⟨rfl, rfl⟩
    go_wp2_with fail
    refine (rmul_any w a c).mono ?_
    rintro e w' ⟨rfl, rfl⟩
    go_wp2_with fail
    refine Go.bodyPost_ret (Go.results_tmp2 rfl _ _ _) rfl ?_
    exact ⟨rfl, rfl⟩
set_option maxRecDepth 100000 in
theorem rpow_any (w : World) (a : G8) (n : Int) (hn : -9223372036854775808 ≤ n ∧ n ≤ 9223372036854775807) :
    Calls Try.prog 15 #[.int .u8 (a.toNat : Int), .int .i64 n] w fun e w' => e = .returned (.tuple #[.int .u8 ((powR a n).1.toNat : Int), .int .i64 (powR a n).2]) ∧ w = w' := by
  by_cases h0 : a = 0#8
  · subst h0
    go_enter Try.func15, Try.ntmps15
    rcases Int.lt_trichotomy n 0 with h | h | h
    · rw [powR_neg h]
      have d1 : decide (n < 0) = true := decide_eq_true h
      go_wp2
      refine Go.bodyPost_ret (Go.results_tmp2 rfl _ _ _) rfl ?_
      exact ⟨rfl, rfl⟩
    · subst h
      rw [powR_nil]
      go_wp2
      refine Go.bodyPost_ret (Go.results_tmp2 rfl _ _ _) rfl ?_
      exact ⟨rfl, rfl⟩
    · rw [powR_pos h]
      have d1 : decide (n < 0) = false := decide_eq_false (by omega)
      have d2 : (n == 0) = false := by simp; omega
      go_wp2
      refine Go.bodyPost_ret (Go.results_tmp2 rfl _ _ _) rfl ?_
      exact ⟨rfl, rfl⟩
  · rw [powR_ne h0]
    have hA := nat_ne h0
    have hr := tmod_255 n
    have hL : (n % 255).toNat < 255 := by omega
    have hz : (((n % 255).toNat : Nat) : Int) = n % 255 := by omega
    obtain ⟨r, hr1⟩ : ∃ r, powZ a n = r := ⟨_, rfl⟩
    have HR : Hid (powG a (n % 255).toNat = r) := Lib.hid hr1
    rw [hr1]
    rw [← hz] at hr
    clear hr1 h0 hz
    have hm1 := Int.tmod_lt_of_pos n (show (0 : Int) < 255 by omega)
    have hm2 := Int.lt_tmod_of_pos n (show (0 : Int) < 255 by omega)
    generalize (n % 255).toNat = L at *
    generalize hmm : n.tmod 255 = m at *
    have q0 : ((a.toNat : Int) == 0) = false := by simp; omega
    clear hA
    go_enter Try.func15, Try.ntmps15
    have hcut : (if m < 0 then m + 255 else m) = (L : Int) := hr
    clear hr
    by_cases hneg : m < 0
    all_goals first | rw [if_pos hneg] at hcut | rw [if_neg hneg] at hcut
    · have HC := Lib.hid hcut
      clear hcut
      go_wp2
      go_loop [7, 8] (fun p i => ∃ k : Nat, k ≤ L ∧ p = .int .u8 ((powG a k).toNat : Int) ∧ i = .int .i64 (k : Int)) (fun _ i => L - (intOf i).toNat)
      case atStart => exact ⟨0, by omega, rfl, rfl⟩
      case round =>
        obtain ⟨k, hk, rfl, rfl⟩ := hrel
        by_cases hlt : k < L
        · have d1 : decide ((k : Int) < m + 255) = true := decide_eq_true (by have := HC.out; omega)
          have HM := Lib.hid (rmul_any w (powG a k) a)
          go_wp2_with fail
          refine HM.out.mono ?_
          rintro e w' ⟨rfl, rfl⟩
          go_wp2_with fail
          go_round
          case rel => exact ⟨k + 1, by omega, rfl, by go_num⟩
          case measure => simp [intOf]; omega
        · have d1 : decide ((k : Int) < m + 255) = false := decide_eq_false (by have := HC.out; omega)
          have HK : Hid (k = L) := Lib.hid (by omega)
          clear hk hlt
          go_wp2_with fail
          refine Go.bodyPost_ret (Go.results_tmp2 rfl _ _ _) rfl ?_
          rw [HK.out, HR.out]
          exact ⟨rfl, rfl⟩
    · have HC := Lib.hid hcut
      clear hcut
      go_wp2
      go_loop [7, 8] (fun p i => ∃ k : Nat, k ≤ L ∧ p = .int .u8 ((powG a k).toNat : Int) ∧ i = .int .i64 (k : Int)) (fun _ i => L - (intOf i).toNat)
      case atStart => exact ⟨0, by omega, rfl, rfl⟩
      case round =>
        obtain ⟨k, hk, rfl, rfl⟩ := hrel
        by_cases hlt : k < L
        · have d1 : decide ((k : Int) < m) = true := decide_eq_true (by have := HC.out; omega)
          have HM := Lib.hid (rmul_any w (powG a k) a)
          go_wp2_with fail
          refine HM.out.mono ?_
          rintro e w' ⟨rfl, rfl⟩
          go_wp2_with fail
          go_round
          case rel => exact ⟨k + 1, by omega, rfl, by go_num⟩
          case measure => simp [intOf]; omega
        · have d1 : decide ((k : Int) < m) = false := decide_eq_false (by have := HC.out; omega)
          have HK : Hid (k = L) := Lib.hid (by omega)
          clear hk hlt
          go_wp2_with fail
          refine Go.bodyPost_ret (Go.results_tmp2 rfl _ _ _) rfl ?_
          rw [HK.out, HR.out]
          exact ⟨rfl, rfl⟩
theorem rlog_nil (w : World) : Calls Try.prog 17 #[.int .u8 0] w fun e w' => e = .returned (.tuple #[.int .i64 0, .int .i64 1]) ∧ w = w' := by
  go_enter Try.func17, Try.ntmps17
  go_wp2
  refine Go.bodyPost_ret (Go.results_tmp2 rfl _ _ _) rfl ?_
  exact ⟨rfl, rfl⟩
theorem rlog_any (w : World) (L : Nat) (hL : L < 255) : Calls Try.prog 17 #[.int .u8 ((expG L).toNat : Int)] w fun e w' => e = .returned (.tuple #[.int .i64 (L : Int), .int .i64 0]) ∧ w = w' := by
  have hA := nat_ne (exp_ne L)
  have q0 : (((expG L).toNat : Int) == 0) = false := by simp; omega
  clear hA
  have HL : Hid (∀ k, k ≤ L → ((((expG k).toNat : Int)) == (((expG L).toNat : Nat) : Int)) = decide (k = L)) := Lib.hid (fun k hk => by
    by_cases h : k = L
    · subst h; simp
    · have h1 : ¬ expG k = expG L := fun e => h (exp_inj (by omega) hL e)
      have h2 : ¬ (expG k).toNat = (expG L).toNat := fun e => h1 (BitVec.eq_of_toNat_eq e)
      rw [decide_eq_false h]
      simp
      omega)
  have hlt := (expG L).isLt
  obtain ⟨a, ha⟩ : ∃ a, (expG L).toNat = a := ⟨_, rfl⟩
  rw [ha] at q0 HL hlt
  rw [ha]
  clear ha
  go_enter Try.func17, Try.ntmps17
  go_wp2
  go_loop [4, 5] (fun p n => ∃ k : Nat, k ≤ L ∧ n = .int .i64 (k : Int) ∧ p = .int .u8 ((expG k).toNat : Int)) (fun _ n => L - (intOf n).toNat)
  case atStart => exact ⟨0, by omega, rfl, rfl⟩
  case round =>
    obtain ⟨k, hk, rfl, rfl⟩ := hrel
    have d1 := HL.out k hk
    by_cases h : k = L
    · rw [decide_eq_true h] at d1
      have HK := Lib.hid h
      clear h hk
      go_wp2_with fail
      refine Go.bodyPost_ret (Go.results_tmp2 rfl _ _ _) rfl ?_
      rw [HK.out]
      exact ⟨rfl, rfl⟩
    · rw [decide_eq_false h] at d1
      have HD : Hid (Calls Try.prog 20 #[.int .u8 ((expG k).toNat : Int), .int .u8 2] w fun e w' => e = .returned (.int .u8 ((expG (k + 1)).toNat : Int)) ∧ w = w') := Lib.hid (by
        have h := rmul_any w (expG k) 2#8
        rw [mul_two] at h
        exact h)
      go_wp2_with fail
      refine HD.out.mono ?_
      rintro e w' ⟨rfl, rfl⟩
      go_wp2_with fail
      go_round
      case rel => exact ⟨k + 1, by omega, by go_num, rfl⟩
      case measure => simp [intOf]; omega
theorem nat_eq0 (a : G8) : ((a.toNat : Int) == 0) = decide (a = 0#8) := by
  by_cases h : a = 0#8
  · subst h; rfl
  · have := nat_ne h
    rw [decide_eq_false h]
    simp
    omega
end Go.Proofs.Ytjojimmfjmchcaa
