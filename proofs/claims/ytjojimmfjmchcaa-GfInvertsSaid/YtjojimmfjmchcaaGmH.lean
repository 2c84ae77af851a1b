/-
  The walks over known and over the laws on the field alone: GfReckons, GfLaws, GfPowers.
-/
import Derived.Test.YtjojimmfjmchcaaGmG
namespace Go.Proofs.Ytjojimmfjmchcaa
open Go.RowKit

theorem known_div : divR 1#8 2#8 = (142#8, 0) := by decide +kernel
theorem known_cau0 : cauF 2 0 0 = 142#8 := by decide +kernel
theorem known_cau1 : cauF 2 0 1 = 244#8 := by decide +kernel
theorem known_mul : mulG 128#8 2#8 = 29#8 := by decide +kernel
set_option maxRecDepth 100000 in
set_option maxHeartbeats 1000000 in
theorem known_any (w : World) : Calls Try.prog 11 #[] w fun e w' => e = .returned (.bool true) ∧ Below w.heap.size w w' := by
  have HD : Hid (Calls Try.prog 12 #[.int .u8 1, .int .u8 2] w fun e w' => e = .returned (.tuple #[.int .u8 142, .int .i64 0]) ∧ w = w') := Lib.hid (by
    have h := div_any w 1#8 2#8
    rw [known_div] at h
    exact h)
  have HL : Hid (Calls Try.prog 16 #[.int .u8 1] w fun e w' => e = .returned (.tuple #[.int .i64 0, .int .i64 0]) ∧ w = w') := Lib.hid (log_any w 0 (by omega))
  have HM : Hid (∀ W : World, Calls Try.prog 19 #[.int .u8 128, .int .u8 2] W fun e w' => e = .returned (.int .u8 29) ∧ W = w') := Lib.hid (fun W => by
    have h := mul_any W 128#8 2#8
    rw [known_mul] at h
    exact h)
  have HC := Lib.hid (cau_any w 1 2 (by omega) (by omega) (by omega))
  go_enter Try.func11, Try.ntmps11
  go_wp2_with fail
  refine HD.out.mono ?_
  rintro e w' ⟨rfl, rfl⟩
  go_wp2_with fail
  refine HL.out.mono ?_
  rintro e w' ⟨rfl, rfl⟩
  go_wp2_with fail
  refine HC.out.mono ?_
  rintro e w1 ⟨us, rfl, ho, hb⟩
  obtain ⟨mb, cap, u, hv, _, _, _, _, hu, k1, f1, hou⟩ := ho.at_ (tabM_at (show 0 < 1 by omega) 2 (cauF 2))
  obtain ⟨rfl, h9, rfl⟩ : w.heap.size = mb ∧ 1 = _ ∧ 1 = cap := by simpa using hv
  obtain ⟨g, cp, rfl, hc1, hc2, hg⟩ := own_form hou (by rw [rowM_len]; omega)
  obtain ⟨k2, f2⟩ := own_cell hou (i := 0) (by rw [rowM_len]; omega)
  obtain ⟨k3, f3⟩ := own_cell hou (i := 1) (by rw [rowM_len]; omega)
  rw [rowM_nat (by omega), known_cau0] at k2
  rw [rowM_nat (by omega), known_cau1] at k3
  rw [rowM_len] at k1
  have k2 : w1.cell? ⟨g, 0, none⟩ = some (.int .u8 142) := k2
  have k3 : w1.cell? ⟨g, 1, none⟩ = some (.int .u8 244) := k3
  have HB := Lib.hid hb
  clear ho hb hv h9 hu hou f1 f2 f3 hc1 hc2
  go_wp2_with fail
  refine (HM.out _).mono ?_
  rintro e w' ⟨rfl, rfl⟩
  go_wp2_with fail
  go_ret
  exact ⟨rfl, HB.out⟩

set_option maxRecDepth 100000 in
set_option maxHeartbeats 1000000 in
theorem reckons_any (w : World) (a b : G8) (n : Int) (hn : -9223372036854775808 ≤ n ∧ n ≤ 9223372036854775807) :
    Calls Try.prog 3 #[.int .u8 (a.toNat : Int), .int .u8 (b.toNat : Int), .int .i64 n] w fun e w' => e = .returned (.bool true) ∧ Below w.heap.size w w' := by
  have HL : Hid (∀ W : World, ∃ x y : Int, (Calls Try.prog 16 #[.int .u8 (a.toNat : Int)] W fun e w' => e = .returned (.tuple #[.int .i64 x, .int .i64 y]) ∧ W = w') ∧ (Calls Try.prog 17 #[.int .u8 (a.toNat : Int)] W fun e w' => e = .returned (.tuple #[.int .i64 x, .int .i64 y]) ∧ W = w')) := Lib.hid (fun W => by
    by_cases h : a = 0#8
    · subst h
      exact ⟨0, 1, log_nil W, rlog_nil W⟩
    · obtain ⟨L, hL, rfl⟩ := exp_all a h
      exact ⟨L, 0, log_any W L hL, rlog_any W L hL⟩)
  have hxor := bxor a b
  go_enter Try.func3, Try.ntmps3
  go_wp2_with fail
  refine (known_any w).mono ?_
  rintro e w1 ⟨rfl, hb⟩
  have HB := Lib.hid hb
  clear hb
  have H1 := Lib.hid (div_any w1 a b)
  have H2 := Lib.hid (rdiv_any w1 a b)
  have H3 := Lib.hid (pow_any w1 a n hn)
  have H4 := Lib.hid (rpow_any w1 a n hn)
  have H5 := Lib.hid (add_any w1 a b)
  have H6 := Lib.hid (mul_any w1 a b)
  have H7 := Lib.hid (rmul_any w1 a b)
  obtain ⟨x, y, h8, h9⟩ := HL.out w1
  have H8 := Lib.hid h8
  have H9 := Lib.hid h9
  clear h8 h9
  generalize divR a b = p at *
  generalize powR a n = q at *
  generalize mulG a b = r at *
  generalize a ^^^ b = s at *
  obtain ⟨p1, p2⟩ := p
  obtain ⟨q1, q2⟩ := q
  go_wp2_with fail
  refine H1.out.mono ?_
  rintro e w' ⟨rfl, rfl⟩
  go_wp2_with fail
  refine H2.out.mono ?_
  rintro e w' ⟨rfl, rfl⟩
  go_wp2_with fail
  refine H3.out.mono ?_
  rintro e w' ⟨rfl, rfl⟩
  go_wp2_with fail
  refine H4.out.mono ?_
  rintro e w' ⟨rfl, rfl⟩
  go_wp2_with fail
  refine H8.out.mono ?_
  rintro e w' ⟨rfl, rfl⟩
  go_wp2_with fail
  refine H9.out.mono ?_
  rintro e w' ⟨rfl, rfl⟩
  go_wp2_with fail
  refine H5.out.mono ?_
  rintro e w' ⟨rfl, rfl⟩
  go_wp2_with fail
  refine H6.out.mono ?_
  rintro e w' ⟨rfl, rfl⟩
  go_wp2_with fail
  refine H7.out.mono ?_
  rintro e w' ⟨rfl, rfl⟩
  go_wp2_with fail
  go_ret
  exact ⟨rfl, HB.out⟩
end Go.Proofs.Ytjojimmfjmchcaa
