/-
  The walks over GfLaws and GfPowers.
-/
import Derived.Test.YtjojimmfjmchcaaGmH
namespace Go.Proofs.Ytjojimmfjmchcaa
open Go.RowKit

theorem exp_powZ (L : Nat) (hL : L < 255) : powR 2#8 (L : Int) = (expG L, 0) := by
  rw [powR_ne (by decide)]
  unfold powZ
  rw [show ((L : Int) % 255).toNat = L by omega, exp_pow, exp_one]
theorem div_mul (a : G8) {b : G8} (h : b ≠ 0#8) : divR (mulG a b) b = (a, 0) := by
  rw [divR_ne _ h, ← mul_assoc, inv_mul h, mul_one]
theorem nat_eq0 (a : G8) : ((a.toNat : Int) == 0) = decide (a = 0#8) := by
  by_cases h : a = 0#8
  · subst h; rfl
  · have := nat_ne h
    rw [decide_eq_false h]
    simp
    omega

set_option maxRecDepth 100000 in
set_option maxHeartbeats 2000000 in
theorem laws_any (w : World) (a b c : G8) :
    Calls Try.prog 6 #[.int .u8 (a.toNat : Int), .int .u8 (b.toNat : Int), .int .u8 (c.toNat : Int)] w fun e w' => e = .returned (.bool true) ∧ Below w.heap.size w w' := by
  have qb := nat_eq0 b
  have qa := nat_eq0 a
  have HAll : Hid (∀ (W : World) (x y z : G8), mulG x y = z → Calls Try.prog 19 #[.int .u8 (x.toNat : Int), .int .u8 (y.toNat : Int)] W fun e w' => e = .returned (.int .u8 (z.toNat : Int)) ∧ W = w') := Lib.hid (fun W x y z h => by rw [← h]; exact mul_any W x y)
  have HAdd : Hid (∀ (W : World) (x y z : G8), x ^^^ y = z → Calls Try.prog 18 #[.int .u8 (x.toNat : Int), .int .u8 (y.toNat : Int)] W fun e w' => e = .returned (.int .u8 (z.toNat : Int)) ∧ W = w') := Lib.hid (fun W x y z h => by rw [← h]; exact add_any W x y)
  have HX : Hid (mulG a b = mulG b a ∧ mulG a (mulG b c) = mulG (mulG a b) c ∧ mulG a (b ^^^ c) = mulG a b ^^^ mulG a c) := Lib.hid ⟨mul_comm a b, mul_assoc a b c, mul_right a b c⟩
  have HM1 : Hid (∀ W : World, Calls Try.prog 19 #[.int .u8 (a.toNat : Int), .int .u8 1] W fun e w' => e = .returned (.int .u8 (a.toNat : Int)) ∧ W = w') := Lib.hid (fun W => by
    have h := mul_any W a 1#8
    rw [mul_one] at h
    exact h)
  have HM0 : Hid (∀ W : World, Calls Try.prog 19 #[.int .u8 (a.toNat : Int), .int .u8 0] W fun e w' => e = .returned (.int .u8 0) ∧ W = w') := Lib.hid (fun W => by
    have h := mul_any W a 0#8
    rw [mul_zero] at h
    exact h)
  have HA0 : Hid (∀ W : World, Calls Try.prog 18 #[.int .u8 (a.toNat : Int), .int .u8 (a.toNat : Int)] W fun e w' => e = .returned (.int .u8 0) ∧ W = w') := Lib.hid (fun W => by
    have h := add_any W a a
    rw [BitVec.xor_self] at h
    exact h)
  have HD : Hid (b ≠ 0#8 → ∀ W : World, Calls Try.prog 12 #[.int .u8 ((mulG a b).toNat : Int), .int .u8 (b.toNat : Int)] W fun e w' => e = .returned (.tuple #[.int .u8 (a.toNat : Int), .int .i64 0]) ∧ W = w') := Lib.hid (fun hne W => by
    have h := div_any W (mulG a b) b
    rw [div_mul a hne] at h
    exact h)
  have HLog : Hid (a ≠ 0#8 → ∀ W : World, ∃ L : Nat, L < 255 ∧ (Calls Try.prog 16 #[.int .u8 (a.toNat : Int)] W fun e w' => e = .returned (.tuple #[.int .i64 (L : Int), .int .i64 0]) ∧ W = w') ∧ (Calls Try.prog 14 #[.int .u8 2, .int .i64 (L : Int)] W fun e w' => e = .returned (.tuple #[.int .u8 (a.toNat : Int), .int .i64 0]) ∧ W = w')) := Lib.hid (fun hne W => by
    obtain ⟨L, hL, rfl⟩ := exp_all a hne
    refine ⟨L, hL, log_any W L hL, ?_⟩
    have h := pow_any W 2#8 (L : Int) (by omega)
    rw [exp_powZ L hL] at h
    exact h)
  go_enter Try.func6, Try.ntmps6
  go_wp2_with fail
  refine (known_any w).mono ?_
  rintro e w1 ⟨rfl, hb⟩
  have HB := Lib.hid hb
  clear hb
  obtain ⟨x, hx⟩ : ∃ x, mulG a b = x := ⟨_, rfl⟩
  obtain ⟨y, hy⟩ : ∃ y, mulG b c = y := ⟨_, rfl⟩
  obtain ⟨z, hz⟩ : ∃ z, mulG a y = z := ⟨_, rfl⟩
  obtain ⟨s, hs⟩ : ∃ s, b ^^^ c = s := ⟨_, rfl⟩
  obtain ⟨t, ht⟩ : ∃ t, mulG a c = t := ⟨_, rfl⟩
  obtain ⟨u, hu⟩ : ∃ u, mulG a s = u := ⟨_, rfl⟩
  have HV : Hid (mulG b a = x ∧ mulG x c = z ∧ x ^^^ t = u) := Lib.hid ⟨HX.out.1.symm.trans hx, by rw [← hx, ← HX.out.2.1, hy, hz], by rw [← hx, ← ht, ← HX.out.2.2, hs, hu]⟩
  have HW := Lib.hid (And.intro hx (And.intro hy (And.intro hz (And.intro hs (And.intro ht hu)))))
  rw [hx] at HD
  clear hx hy hz hs ht hu
  go_wp2_with fail
  refine (HAll.out _ a b x HW.out.1).mono ?_
  rintro e w' ⟨rfl, rfl⟩
  go_wp2_with fail
  refine (HAll.out _ b a x HV.out.1).mono ?_
  rintro e w' ⟨rfl, rfl⟩
  go_wp2_with fail
  refine (HAll.out _ b c y HW.out.2.1).mono ?_
  rintro e w' ⟨rfl, rfl⟩
  go_wp2_with fail
  refine (HAll.out _ a y z HW.out.2.2.1).mono ?_
  rintro e w' ⟨rfl, rfl⟩
  go_wp2_with fail
  refine (HAll.out _ a b x HW.out.1).mono ?_
  rintro e w' ⟨rfl, rfl⟩
  go_wp2_with fail
  refine (HAll.out _ x c z HV.out.2.1).mono ?_
  rintro e w' ⟨rfl, rfl⟩
  go_wp2_with fail
  refine (HAdd.out _ b c s HW.out.2.2.2.1).mono ?_
  rintro e w' ⟨rfl, rfl⟩
  go_wp2_with fail
  refine (HAll.out _ a s u HW.out.2.2.2.2.2).mono ?_
  rintro e w' ⟨rfl, rfl⟩
  go_wp2_with fail
  refine (HAll.out _ a b x HW.out.1).mono ?_
  rintro e w' ⟨rfl, rfl⟩
  go_wp2_with fail
  refine (HAll.out _ a c t HW.out.2.2.2.2.1).mono ?_
  rintro e w' ⟨rfl, rfl⟩
  go_wp2_with fail
  refine (HAdd.out _ x t u HV.out.2.2).mono ?_
  rintro e w' ⟨rfl, rfl⟩
  go_wp2_with fail
  refine (HA0.out _).mono ?_
  rintro e w' ⟨rfl, rfl⟩
  go_wp2_with fail
  refine (HM1.out _).mono ?_
  rintro e w' ⟨rfl, rfl⟩
  go_wp2_with fail
  refine (HM0.out _).mono ?_
  rintro e w' ⟨rfl, rfl⟩
  have HRest : Hid (a ≠ 0#8 → True) := Lib.hid fun _ => trivial
  by_cases hb0 : b = 0#8
  · rw [decide_eq_true hb0] at qb
    have HB0 := Lib.hid hb0
    clear hb0
    by_cases ha0 : a = 0#8
    · rw [decide_eq_true ha0] at qa
      clear ha0
      go_wp2_with fail
      go_ret
      exact ⟨rfl, HB.out⟩
    · rw [decide_eq_false ha0] at qa
      obtain ⟨L, hL, h1, h2⟩ := HLog.out ha0 w1
      have H1 := Lib.hid h1
      have H2 := Lib.hid h2
      clear h1 h2 ha0
      have d1 : decide ((L : Int) < 255) = true := decide_eq_true (by omega)
      go_wp2_with fail
      refine H1.out.mono ?_
      rintro e w' ⟨rfl, rfl⟩
      go_wp2_with fail
      refine H2.out.mono ?_
      rintro e w' ⟨rfl, rfl⟩
      go_wp2_with fail
      go_ret
      exact ⟨rfl, HB.out⟩
  · rw [decide_eq_false hb0] at qb
    have HDv := Lib.hid (HD.out hb0)
    clear hb0
    by_cases ha0 : a = 0#8
    · rw [decide_eq_true ha0] at qa
      clear ha0
      go_wp2_with fail
      refine (HAll.out _ a b x HW.out.1).mono ?_
      rintro e w' ⟨rfl, rfl⟩
      go_wp2_with fail
      refine (HDv.out _).mono ?_
      rintro e w' ⟨rfl, rfl⟩
      go_wp2_with fail
      go_ret
      exact ⟨rfl, HB.out⟩
    · rw [decide_eq_false ha0] at qa
      obtain ⟨L, hL, h1, h2⟩ := HLog.out ha0 w1
      have H1 := Lib.hid h1
      have H2 := Lib.hid h2
      clear h1 h2 ha0
      have d1 : decide ((L : Int) < 255) = true := decide_eq_true (by omega)
      go_wp2_with fail
      refine (HAll.out _ a b x HW.out.1).mono ?_
      rintro e w' ⟨rfl, rfl⟩
      go_wp2_with fail
      refine (HDv.out _).mono ?_
      rintro e w' ⟨rfl, rfl⟩
      go_wp2_with fail
      refine H1.out.mono ?_
      rintro e w' ⟨rfl, rfl⟩
      go_wp2_with fail
      refine H2.out.mono ?_
      rintro e w' ⟨rfl, rfl⟩
      go_wp2_with fail
      go_ret
      exact ⟨rfl, HB.out⟩
end Go.Proofs.Ytjojimmfjmchcaa
