/-
  The walk over GfPowers.
-/
import Derived.Test.YtjojimmfjmchcaaGmI
namespace Go.Proofs.Ytjojimmfjmchcaa
open Go.RowKit

theorem powZ_ne {a : G8} (h : a ≠ 0#8) (n : Int) : powZ a n ≠ 0#8 := pow_ne h _
set_option maxRecDepth 100000 in
set_option maxHeartbeats 2000000 in
theorem powers_any (w : World) (a : G8) (m n : Int) (hm : -9223372036854775808 ≤ m ∧ m ≤ 9223372036854775807) (hn : -9223372036854775808 ≤ n ∧ n ≤ 9223372036854775807) :
    Calls Try.prog 9 #[.int .u8 (a.toNat : Int), .int .i64 m, .int .i64 n] w fun e w' => e = .returned (.bool true) ∧ Below w.heap.size w w' := by
  have qa := nat_eq0 a
  have HAll : Hid (∀ (W : World) (x y z : G8), mulG x y = z → Calls Try.prog 19 #[.int .u8 (x.toNat : Int), .int .u8 (y.toNat : Int)] W fun e w' => e = .returned (.int .u8 (z.toNat : Int)) ∧ W = w') := Lib.hid (fun W x y z h => by rw [← h]; exact mul_any W x y)
  go_enter Try.func9, Try.ntmps9
  go_wp2_with fail
  refine (known_any w).mono ?_
  rintro e w1 ⟨rfl, hb⟩
  have HB := Lib.hid hb
  clear hb
  by_cases ha0 : a = 0#8
  · rw [decide_eq_true ha0] at qa
    clear ha0
    go_wp2_with fail
    go_ret
    exact ⟨rfl, HB.out⟩
  · rw [decide_eq_false ha0] at qa
    have HA0 := Lib.hid ha0
    clear ha0
    by_cases g1 : m < -1099511627776
    · have d1 : decide (m < -1099511627776) = true := decide_eq_true g1
      go_wp2_with fail
      go_ret
      exact ⟨rfl, HB.out⟩
    · have d1 : decide (m < -1099511627776) = false := decide_eq_false g1
      by_cases g2 : 1099511627776 < m
      · have d2 : decide (1099511627776 < m) = true := decide_eq_true g2
        go_wp2_with fail
        go_ret
        exact ⟨rfl, HB.out⟩
      · have d2 : decide (1099511627776 < m) = false := decide_eq_false g2
        by_cases g3 : n < -1099511627776
        · have d3 : decide (n < -1099511627776) = true := decide_eq_true g3
          go_wp2_with fail
          go_ret
          exact ⟨rfl, HB.out⟩
        · have d3 : decide (n < -1099511627776) = false := decide_eq_false g3
          by_cases g4 : 1099511627776 < n
          · have d4 : decide (1099511627776 < n) = true := decide_eq_true g4
            go_wp2_with fail
            go_ret
            exact ⟨rfl, HB.out⟩
          · have d4 : decide (1099511627776 < n) = false := decide_eq_false g4
            have HP : Hid (∀ (k : Int) (x : G8), -9223372036854775808 ≤ k ∧ k ≤ 9223372036854775807 → powZ a k = x → Calls Try.prog 14 #[.int .u8 (a.toNat : Int), .int .i64 k] w1 fun e w' => e = .returned (.tuple #[.int .u8 (x.toNat : Int), .int .i64 0]) ∧ w1 = w') := Lib.hid (fun k x hk hx => by
              have h := pow_any w1 a k hk
              rw [powR_ne HA0.out, hx] at h
              exact h)
            obtain ⟨x, hx⟩ : ∃ x, powZ a m = x := ⟨_, rfl⟩
            obtain ⟨y, hy⟩ : ∃ y, powZ a n = y := ⟨_, rfl⟩
            obtain ⟨z, hz⟩ : ∃ z, powZ a (m + n) = z := ⟨_, rfl⟩
            obtain ⟨v, hv⟩ : ∃ v, powZ a (0 - n) = v := ⟨_, rfl⟩
            have HV : Hid (mulG x y = z ∧ mulG y v = 1#8) := Lib.hid ⟨by rw [← hx, ← hy, ← hz]; exact powZ_add HA0.out m n, by rw [← hy, ← hv]; exact powZ_neg HA0.out n⟩
            obtain ⟨p, hp, ep⟩ := exp_all x (by rw [← hx]; exact powZ_ne HA0.out m)
            obtain ⟨q, hq, eq⟩ := exp_all y (by rw [← hy]; exact powZ_ne HA0.out n)
            obtain ⟨r, hr, er⟩ := exp_all z (by rw [← hz]; exact powZ_ne HA0.out (m + n))
            have hpq : (p + q) % 255 = r := log_mul hr ep eq (er.trans HV.out.1.symm)
            have HL1 := Lib.hid (log_any w1 p hp)
            have HL2 := Lib.hid (log_any w1 q hq)
            have HL3 := Lib.hid (log_any w1 r hr)
            rw [ep] at HL1
            rw [eq] at HL2
            rw [er] at HL3
            have t1 : ((p : Int) + (q : Int)).tmod 255 = (r : Int) := by
              rw [Int.tmod_eq_emod_of_nonneg (by omega)]
              omega
            have t2 : ((p : Int) + (q : Int)) % 255 = (r : Int) := by omega
            have HZ := Lib.hid (And.intro hx (And.intro hy (And.intro hz hv)))
            clear hx hy hz hv ep eq er hpq
            go_wp2_with fail
            refine (HP.out _ x (by omega) HZ.out.1).mono ?_
            rintro e w' ⟨rfl, rfl⟩
            go_wp2_with fail
            refine (HP.out _ y (by omega) HZ.out.2.1).mono ?_
            rintro e w' ⟨rfl, rfl⟩
            go_wp2_with fail
            refine (HP.out _ z (by omega) HZ.out.2.2.1).mono ?_
            rintro e w' ⟨rfl, rfl⟩
            go_wp2_with fail
            refine (HP.out _ v (by omega) (by first | exact HZ.out.2.2.2 | (rw [← HZ.out.2.2.2]; congr 1; omega))).mono ?_
            rintro e w' ⟨rfl, rfl⟩
            go_wp2_with fail
            refine (HAll.out _ x y z HV.out.1).mono ?_
            rintro e w' ⟨rfl, rfl⟩
            go_wp2_with fail
            refine (HAll.out _ y v 1#8 HV.out.2).mono ?_
            rintro e w' ⟨rfl, rfl⟩
            have o1 : (((1#8 : G8).toNat : Nat) : Int) = 1 := rfl
            rw [o1]
            go_wp2_with fail
            refine HL1.out.mono ?_
            rintro e w' ⟨rfl, rfl⟩
            go_wp2_with fail
            refine HL2.out.mono ?_
            rintro e w' ⟨rfl, rfl⟩
            go_wp2_with fail
            refine HL3.out.mono ?_
            rintro e w' ⟨rfl, rfl⟩
            go_wp2_with fail
            go_ret
            refine ⟨?_, HB.out⟩
            first | rfl | (simp; done) | trace_state
end Go.Proofs.Ytjojimmfjmchcaa
