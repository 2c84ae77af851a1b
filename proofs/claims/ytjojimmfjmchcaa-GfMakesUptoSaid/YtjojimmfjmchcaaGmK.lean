/-
  The walk over GfMakes.
-/
import Derived.Test.YtjojimmfjmchcaaGmH
namespace Go.Proofs.Ytjojimmfjmchcaa
open Go.RowKit

/-- What Unit and Cauchy tell, whatever the sizes: a matrix of rows, or nil and the error. -/
theorem unit_ways (w : World) (n : Int) (hn : -9223372036854775808 ≤ n ∧ n ≤ 9223372036854775807) : ∃ (A : List (List UInt8)) (x : Int),
    (Calls Try.prog 22 #[.int .i64 n] w fun e w' => ∃ v, e = .returned (.tuple #[v, .int .i64 x]) ∧ Mx w' (fun _ => True) v A ∧ Below w.heap.size w w') ∧
    (∀ w1 : World, Calls Try.prog 23 #[.int .i64 n] w1 fun e w' => ∃ v, e = .returned (.tuple #[v, .int .i64 x]) ∧ Mx w' (fun _ => True) v A ∧ Below w1.heap.size w1 w') := by
  cases h : inB n
  · refine ⟨[], 1, (unit_no w n h).mono ?_, fun w1 => (runit_no w1 n h).mono ?_⟩
    · rintro e w' ⟨rfl, rfl⟩
      exact ⟨_, rfl, Mx.nil _ _, Below.refl _ _⟩
    · rintro e w' ⟨rfl, rfl⟩
      exact ⟨_, rfl, Mx.nil _ _, Below.refl _ _⟩
  · have h1 : 1 ≤ n ∧ n ≤ 255 := by
      unfold inB at h
      simp only [Bool.and_eq_true, decide_eq_true_eq] at h
      exact h
    obtain ⟨k, rfl⟩ := Int.eq_ofNat_of_zero_le (show 0 ≤ n by omega)
    have hs : ∀ l ∈ tabM k k unitF, l.length ≤ 140737488355328 := fun l hl => by
      obtain ⟨i, _, rfl⟩ := List.mem_map.1 hl
      rw [rowM_len]
      omega
    refine ⟨tabM k k unitF, 0, (unit_any w k (by omega) (by omega)).mono ?_, fun w1 => (runit_any w1 k (by omega) (by omega)).mono ?_⟩
    · rintro e w' ⟨us, rfl, ho, hb⟩
      exact ⟨_, rfl, (ho.mx (by rw [tabM_len]; omega) hs).mono fun _ _ _ => trivial, hb⟩
    · rintro e w' ⟨v, us, rfl, ho, hb⟩
      exact ⟨_, rfl, (ho.mx (by rw [tabM_len]; omega) hs).mono fun _ _ _ => trivial, hb⟩
theorem cau_ways (w : World) (r c : Int) (hr : -9223372036854775808 ≤ r ∧ r ≤ 9223372036854775807) (hc : -9223372036854775808 ≤ c ∧ c ≤ 9223372036854775807) : ∃ (A : List (List UInt8)) (x : Int),
    (Calls Try.prog 25 #[.int .i64 r, .int .i64 c] w fun e w' => ∃ v, e = .returned (.tuple #[v, .int .i64 x]) ∧ Mx w' (fun _ => True) v A ∧ Below w.heap.size w w') ∧
    (∀ w1 : World, Calls Try.prog 26 #[.int .i64 r, .int .i64 c] w1 fun e w' => ∃ v, e = .returned (.tuple #[v, .int .i64 x]) ∧ Mx w' (fun _ => True) v A ∧ Below w1.heap.size w1 w') := by
  cases h : cauB r c
  · refine ⟨[], 1, (cau_no w r c hr hc h).mono ?_, fun w1 => (rcau_no w1 r c hr hc h).mono ?_⟩
    · rintro e w' ⟨rfl, rfl⟩
      exact ⟨_, rfl, Mx.nil _ _, Below.refl _ _⟩
    · rintro e w' ⟨rfl, rfl⟩
      exact ⟨_, rfl, Mx.nil _ _, Below.refl _ _⟩
  · have h1 : 1 ≤ r ∧ 1 ≤ c ∧ r + c ≤ 256 := by
      unfold cauB at h
      simp only [Bool.and_eq_true, decide_eq_true_eq] at h
      exact h
    obtain ⟨k, rfl⟩ := Int.eq_ofNat_of_zero_le (show 0 ≤ r by omega)
    obtain ⟨j, rfl⟩ := Int.eq_ofNat_of_zero_le (show 0 ≤ c by omega)
    have hs : ∀ l ∈ tabM k j (cauF j), l.length ≤ 140737488355328 := fun l hl => by
      obtain ⟨i, _, rfl⟩ := List.mem_map.1 hl
      rw [rowM_len]
      omega
    refine ⟨tabM k j (cauF j), 0, (cau_any w k j (by omega) (by omega) (by omega)).mono ?_, fun w1 => (rcau_any w1 k j (by omega) (by omega) (by omega)).mono ?_⟩
    · rintro e w' ⟨us, rfl, ho, hb⟩
      exact ⟨_, rfl, (ho.mx (by rw [tabM_len]; omega) hs).mono fun _ _ _ => trivial, hb⟩
    · rintro e w' ⟨v, us, rfl, ho, hb⟩
      exact ⟨_, rfl, (ho.mx (by rw [tabM_len]; omega) hs).mono fun _ _ _ => trivial, hb⟩

set_option maxRecDepth 100000 in
set_option maxHeartbeats 2000000 in
theorem makes_any (w : World) (n r c : Int) (v : Value) (M : List (List UInt8)) (hn : -9223372036854775808 ≤ n ∧ n ≤ 9223372036854775807) (hr : -9223372036854775808 ≤ r ∧ r ≤ 9223372036854775807) (hc : -9223372036854775808 ≤ c ∧ c ≤ 9223372036854775807)
    (hm : Mx w (fun k => k < w.heap.size) v M) (hl : M.length ≤ 1048576) (hll : ∀ l ∈ M, l.length ≤ 1048576) :
    Calls Try.prog 4 #[.int .i64 n, .int .i64 r, .int .i64 c, v] w fun e w' => e = .returned (.bool true) ∧ Below w.heap.size w w' := by
  have HM := Lib.hid hm
  have HL := Lib.hid hll
  obtain ⟨p, cap, rfl, _, _, _, _⟩ := hm.form
  clear hm hll
  go_enter Try.func4, Try.ntmps4
  go_wp2_with fail
  refine (known_any w).mono ?_
  rintro e w1 ⟨rfl, hb1⟩
  have HB1 := Lib.hid hb1
  have HM1 := Lib.hid (HM.out.under hb1)
  have HF := Lib.hid (few_any w1 _ _ M (HM.out.under hb1) hl HL.out)
  clear hb1
  cases hf : fewM M
  · rw [hf] at HF
    clear hf
    go_wp2_with fail
    refine HF.out.mono ?_
    rintro e w' ⟨rfl, rfl⟩
    go_wp2_with fail
    go_ret
    exact ⟨rfl, HB1.out⟩
  · rw [hf] at HF
    clear hf
    go_wp2_with fail
    refine HF.out.mono ?_
    rintro e w' ⟨rfl, rfl⟩
    obtain ⟨A, x, h1, h2⟩ := unit_ways w1 n hn
    have H1 := Lib.hid h1
    have H2 := Lib.hid h2
    clear h1 h2
    go_wp2_with fail
    refine H1.out.mono ?_
    rintro e w2 ⟨v1, rfl, hv1, hb2⟩
    obtain ⟨p1, c1, rfl, _, _, _, _⟩ := hv1.form
    have HV1 := Lib.hid hv1
    have HB2 := Lib.hid (HB1.out.trans (hb2.mono HB1.out.size))
    clear hv1 hb2
    go_wp2_with fail
    refine (H2.out w2).mono ?_
    rintro e w3 ⟨v2, rfl, hv2, hb3⟩
    obtain ⟨p2, c2, rfl, _, _, _, _⟩ := hv2.form
    have HS := Lib.hid (same_any w3 _ _ _ _ A A (HV1.out.below hb3) hv2)
    have HB3 := Lib.hid (HB2.out.trans (hb3.mono HB2.out.size))
    rw [decide_eq_true rfl] at HS
    clear hv2 hb3
    go_wp2_with fail
    refine HS.out.mono ?_
    rintro e w4 ⟨rfl, n4, hw4⟩
    have HB4 : Hid (Below w.heap.size w w4) := Lib.hid (by rw [hw4]; exact below_drewN HB3.out n4)
    clear hw4
    obtain ⟨B, y, h1, h2⟩ := cau_ways w4 r c hr hc
    have H3 := Lib.hid h1
    have H4 := Lib.hid h2
    clear h1 h2
    go_wp2_with fail
    refine H3.out.mono ?_
    rintro e w5 ⟨v3, rfl, hv3, hb5⟩
    obtain ⟨p3, c3, rfl, _, _, _, _⟩ := hv3.form
    have HV3 := Lib.hid hv3
    have HB5 := Lib.hid (HB4.out.trans (hb5.mono HB4.out.size))
    clear hv3 hb5
    go_wp2_with fail
    refine (H4.out w5).mono ?_
    rintro e w6 ⟨v4, rfl, hv4, hb6⟩
    obtain ⟨p4, c4, rfl, _, _, _, _⟩ := hv4.form
    have HS2 := Lib.hid (same_any w6 _ _ _ _ B B (HV3.out.below hb6) hv4)
    have HB6 := Lib.hid (HB5.out.trans (hb6.mono HB5.out.size))
    rw [decide_eq_true rfl] at HS2
    clear hv4 hb6
    go_wp2_with fail
    refine HS2.out.mono ?_
    rintro e w7 ⟨rfl, n7, hw7⟩
    have HB7 : Hid (Below w.heap.size w w7) := Lib.hid (by rw [hw7]; exact below_drewN HB6.out n7)
    clear hw7
    have HR1 := Lib.hid (right_any w7 _ _ M (HM.out.under HB7.out))
    have HR2 := Lib.hid (rright_any w7 _ _ M (HM.out.under HB7.out))
    generalize rightL M = q at *
    go_wp2_with fail
    refine HR1.out.mono ?_
    rintro e w8 ⟨rfl, rfl⟩
    go_wp2_with fail
    refine HR2.out.mono ?_
    rintro e w8 ⟨rfl, n8, hw8⟩
    have HB8 : Hid (Below w.heap.size w w8) := Lib.hid (by rw [hw8]; exact below_drewN HB7.out n8)
    clear hw8
    go_wp2_with fail
    go_ret
    exact ⟨by cases q <;> rfl, HB8.out⟩
end Go.Proofs.Ytjojimmfjmchcaa
