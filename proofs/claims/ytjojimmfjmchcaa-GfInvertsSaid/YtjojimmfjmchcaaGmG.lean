/-
  The walks over gf.Right and the reference's Right; known.
-/
import Derived.Test.YtjojimmfjmchcaaGmF
namespace Go.Proofs.Ytjojimmfjmchcaa
open Go.RowKit

theorem contains_any (w : World) (F : Nat → Prop) (v : Value) (A : List (List UInt8)) (ha : Mx w F v A) (h0 : 0 < A.length) :
    Calls Try.prog 44 #[v, .func (.func 45) #[v] #[]] w fun e w' => e = .returned (.bool (!(A.all fun l => decide (l.length = colsL A)))) ∧ w = w' := by
  have HI := Lib.hid (index_any w F v A ha h0)
  obtain ⟨pa, ca, rfl, hla, hla2, hca, _⟩ := ha.form
  generalize (A.all fun l => decide (l.length = colsL A)) = r at *
  clear ha
  go_enter Try.func44, Try.ntmps44
  go_wp2_with fail
  refine HI.out.mono ?_
  rintro e w' ⟨z, rfl, hz, rfl⟩
  have HZ := Lib.hid hz
  clear hz
  go_wp2_with fail
  go_ret
  refine ⟨?_, rfl⟩
  rw [← HZ.out]
  first | rfl | (simp; done)
theorem inB_nat (n : Nat) : inB (n : Int) = decide (1 ≤ n ∧ n ≤ 255) := by
  unfold inB
  rw [Bool.eq_iff_iff]
  simp only [Bool.and_eq_true, decide_eq_true_eq]
  omega
theorem right_eq {A : List (List UInt8)} (h0 : 0 < A.length) : rightL A = (inB (A.length : Int) && (inB ((A[0].length : Nat) : Int) && A.all fun l => decide (l.length = colsL A))) := by
  unfold rightL
  rw [inB_nat, inB_nat]
  have : A.getD 0 [] = A[0] := by rw [List.getD_eq_getElem?_getD, List.getElem?_eq_getElem h0]; rfl
  rw [this]
  unfold colsL
  rw [this]
theorem right_nil {A : List (List UInt8)} (h0 : A.length = 0) : rightL A = false := by
  unfold rightL
  rw [decide_eq_false (by omega)]
  rfl
set_option maxRecDepth 100000 in
set_option maxHeartbeats 1000000 in
theorem right_any (w : World) (F : Nat → Prop) (v : Value) (A : List (List UInt8)) (ha : Mx w F v A) :
    Calls Try.prog 27 #[v] w fun e w' => e = .returned (.bool (rightL A)) ∧ w = w' := by
  obtain ⟨pa, ca, rfl, hla, hla2, hca, _⟩ := ha.form
  have HW1 := Lib.hid (within_any w (A.length : Int))
  by_cases h0 : A.length = 0
  · have hb : inB (A.length : Int) = false := by rw [inB_nat, h0]; rfl
    rw [hb] at HW1
    rw [right_nil h0]
    clear hb h0 ha
    go_enter Try.func27, Try.ntmps27
    go_wp2_with (refine HW1.out.mono ?_; rintro e w' ⟨rfl, rfl⟩)
    go_ret
    exact ⟨rfl, rfl⟩
  · have h1 : 0 < A.length := by omega
    have HC := Lib.hid (contains_any w F _ A ha h1)
    rw [right_eq h1]
    obtain ⟨b0, o0, q0, c0, rfl, hb0, _, k0, r0⟩ := ha.at_ (List.getElem?_eq_getElem h1)
    rw [Nat.add_zero] at k0
    have HW2 := Lib.hid (within_any w ((A[0].length : Nat) : Int))
    generalize A[0].length = C at *
    generalize (A.all fun l => decide (l.length = colsL A)) = r at *
    clear ha r0 h0
    have hcp : (0 : Int) < (A.length : Int) := by omega
    go_enter Try.func27, Try.ntmps27
    cases hq1 : inB (A.length : Int)
    · rw [hq1] at HW1
      clear hq1
      rw [Bool.false_and]
      go_wp2_with (refine HW1.out.mono ?_; rintro e w' ⟨rfl, rfl⟩)
      go_ret
      exact ⟨rfl, rfl⟩
    · rw [hq1] at HW1
      clear hq1
      cases hq2 : inB (C : Int)
      · rw [hq2] at HW2
        clear hq2
        rw [Bool.false_and, Bool.and_false]
        go_wp2_with fail
        refine HW1.out.mono ?_
        rintro e w' ⟨rfl, rfl⟩
        go_wp2_with fail
        refine HW2.out.mono ?_
        rintro e w' ⟨rfl, rfl⟩
        go_wp2_with fail
        go_ret
        exact ⟨rfl, rfl⟩
      · rw [hq2] at HW2
        clear hq2
        rw [Bool.true_and, Bool.true_and]
        go_wp2_with fail
        refine HW1.out.mono ?_
        rintro e w' ⟨rfl, rfl⟩
        go_wp2_with fail
        refine HW2.out.mono ?_
        rintro e w' ⟨rfl, rfl⟩
        go_wp2_with fail
        refine HC.out.mono ?_
        rintro e w' ⟨rfl, rfl⟩
        go_wp2_with fail
        go_ret
        refine ⟨?_, rfl⟩
        cases r <;> rfl
set_option maxRecDepth 100000 in
set_option maxHeartbeats 1000000 in
theorem rright_any (w : World) (F : Nat → Prop) (v : Value) (A : List (List UInt8)) (ha : Mx w F v A) :
    Calls Try.prog 28 #[v] w fun e w' => e = .returned (.bool (rightL A)) ∧ ∃ n, w' = w.drewN n := by
  have HA := Lib.hid ha
  obtain ⟨pa, ca, rfl, hla, hla2, hca, _⟩ := ha.form
  by_cases h0 : A.length = 0
  · rw [right_nil h0]
    have d1 : decide ((A.length : Int) < 1) = true := decide_eq_true (by omega)
    have d2 : decide (A.length < 1) = true := decide_eq_true (by omega)
    clear h0 ha
    go_enter Try.func28, Try.ntmps28
    go_wp2_with fail
    go_ret
    exact ⟨rfl, 0, rfl⟩
  · have h1 : 0 < A.length := by omega
    obtain ⟨b0, o0, q0, c0, rfl, hb0, _, k0, r0⟩ := ha.at_ (List.getElem?_eq_getElem h1)
    rw [Nat.add_zero] at k0
    have hr := right_eq h1
    rw [inB_nat, inB_nat] at hr
    have hcc : colsL A = A[0].length := by
      unfold colsL
      rw [List.getD_eq_getElem?_getD, List.getElem?_eq_getElem h1]
      rfl
    have HCC := Lib.hid hcc
    have HA0 : Hid (A[0]? = some A[0]) := Lib.hid (List.getElem?_eq_getElem h1)
    generalize A[0].length = C at *
    obtain ⟨r, hrr⟩ : ∃ r, rightL A = r := ⟨_, rfl⟩
    rw [hrr] at hr
    rw [hrr]
    have d1 : decide ((A.length : Int) < 1) = false := decide_eq_false (by omega)
    have d1n : decide (A.length < 1) = false := decide_eq_false (by omega)
    have HRr := Lib.hid hr
    clear ha r0 h0 hcc hrr hr
    have hcp : (0 : Int) < (A.length : Int) := by omega
    go_enter Try.func28, Try.ntmps28
    by_cases g1 : 255 < A.length
    · have d2 : decide ((255 : Int) < (A.length : Int)) = true := decide_eq_true (by omega)
      have d2n : decide (255 < A.length) = true := decide_eq_true g1
      have hrf : r = false := by
        rw [HRr.out, decide_eq_false (show ¬(1 ≤ A.length ∧ A.length ≤ 255) by omega)]
        rfl
      subst hrf
      clear g1
      go_wp2_with fail
      go_ret
      exact ⟨rfl, 0, rfl⟩
    · have d2 : decide ((255 : Int) < (A.length : Int)) = false := decide_eq_false (by omega)
      have d2n : decide (255 < A.length) = false := decide_eq_false g1
      by_cases g2 : C < 1
      · have d3 : decide ((C : Int) < 1) = true := decide_eq_true (by omega)
        have d3n : decide (C < 1) = true := decide_eq_true g2
        have hrf : r = false := by
          rw [HRr.out, decide_eq_false (show ¬(1 ≤ C ∧ C ≤ 255) by omega), Bool.false_and, Bool.and_false]
        subst hrf
        clear g1 g2
        go_wp2_with fail
        go_ret
        exact ⟨rfl, 0, rfl⟩
      · have d3 : decide ((C : Int) < 1) = false := decide_eq_false (by omega)
        have d3n : decide (C < 1) = false := decide_eq_false g2
        by_cases g3 : 255 < C
        · have d4 : decide ((255 : Int) < (C : Int)) = true := decide_eq_true (by omega)
          have d4n : decide (255 < C) = true := decide_eq_true g3
          have hrf : r = false := by
            rw [HRr.out, decide_eq_false (show ¬(1 ≤ C ∧ C ≤ 255) by omega), Bool.false_and, Bool.and_false]
          subst hrf
          clear g1 g2 g3
          go_wp2_with fail
          go_ret
          exact ⟨rfl, 0, rfl⟩
        · have d4 : decide ((255 : Int) < (C : Int)) = false := decide_eq_false (by omega)
          have d4n : decide (255 < C) = false := decide_eq_false g3
          have hra : r = A.all fun l => decide (l.length = colsL A) := by
            rw [HRr.out, decide_eq_true (show 1 ≤ C ∧ C ≤ 255 by omega), decide_eq_true (show 1 ≤ A.length ∧ A.length ≤ 255 by omega), Bool.true_and, Bool.true_and]
          have HRa := Lib.hid hra
          clear hra HRr g1 g2 g3
          go_wp2_with fail
          clear d1 d1n d2 d2n d3 d3n d4 d4n
          go_loopw [3] (fun i wr => ∃ k m : Nat, 1 ≤ k ∧ k ≤ A.length ∧ i = .int .i64 (k : Int) ∧ (∀ j l, j < k → A[j]? = some l → l.length = C) ∧ wr = w.drewN m) (fun i _ => A.length - (intOf i).toNat)
          case atStart => exact ⟨1, 0, by omega, by omega, rfl, fun j l hj hl => by
            obtain rfl : j = 0 := by omega
            rw [HA0.out] at hl
            obtain rfl := Option.some.inj hl
            have h := HCC.out
            unfold colsL at h
            rw [List.getD_eq_getElem?_getD, HA0.out] at h
            exact h, rfl⟩
          case round =>
            obtain ⟨k, m, hk1, hk, rfl, hs, hwr⟩ := hrel
            have HS := Lib.hid hs
            have HBw : Hid (Below w.heap.size w wr) := Lib.hid (by rw [hwr]; exact below_drewN (Below.refl _ _) m)
            have HW := Lib.hid hwr
            clear hs hwr
            by_cases hlt : k < A.length
            · have e1 : decide ((k : Int) < (A.length : Int)) = true := decide_eq_true (by omega)
              have e2 : decide (k < A.length) = true := decide_eq_true hlt
              have HA2 := Lib.hid (HA.out.below HBw.out)
              obtain ⟨b1, o1, q1', c1, hp1, hb1, _, k1, r1⟩ := HA2.out.at_ (List.getElem?_eq_getElem hlt)
              obtain ⟨b2, o2, q2', c2, hp2, hb2, _, k2, r2⟩ := HA2.out.at_ HA0.out
              obtain ⟨rfl, rfl⟩ : b0 = b1 ∧ o0 = o1 := by simpa using hp1
              obtain ⟨rfl, rfl⟩ : b0 = b2 ∧ o0 = o2 := by simpa using hp2
              have hlc : A[0].length = C := by
                have h := HCC.out
                unfold colsL at h
                rw [List.getD_eq_getElem?_getD, HA0.out] at h
                exact h
              rw [hlc, Nat.add_zero] at k2
              have HK : Hid (A[k]? = some A[k]) := Lib.hid (List.getElem?_eq_getElem hlt)
              generalize A[k] = la at *
              clear r1 r2 hp1 hp2 hlc k0
              by_cases hq : la.length = C
              · have z1 : ((la.length : Int) == (C : Int)) = true := by rw [hq]; simp
                have z2 : (la.length == C) = true := by rw [hq]; simp
                have HQ := Lib.hid hq
                clear hq
                go_wp2_with fail
                go_quiet (fail)
                go_wp2_with fail
                refine ⟨⟨k + 1, _, by omega, by omega, by go_num, fun j l hj hl => ?_, by rw [HW.out, World.drewN_drewN]⟩, by simp [intOf]; omega⟩
                rcases Nat.lt_or_ge j k with h | h
                · exact HS.out j l h hl
                · obtain rfl : j = k := by omega
                  rw [HK.out] at hl
                  obtain rfl := Option.some.inj hl
                  exact HQ.out
              · have z1 : ((la.length : Int) == (C : Int)) = false := by simp; omega
                have z2 : (la.length == C) = false := by simp; omega
                have hrf : r = false := by
                  rw [HRa.out]
                  rcases e : (A.all fun l => decide (l.length = colsL A)) with _ | _
                  · rfl
                  · have h1 := List.all_eq_true.1 e la (List.mem_of_getElem? HK.out)
                    rw [HCC.out] at h1
                    exact absurd (of_decide_eq_true h1) hq
                subst hrf
                clear hq
                go_wp2_with fail
                go_quiet (fail)
                go_wp2_with fail
                go_ret
                exact ⟨rfl, _, by rw [HW.out, World.drewN_drewN]⟩
            · obtain rfl : k = A.length := by omega
              have hrt : r = true := by
                rw [HRa.out]
                refine List.all_eq_true.2 fun l hl => ?_
                obtain ⟨j, hj⟩ := List.getElem?_of_mem hl
                rw [HCC.out]
                exact decide_eq_true (HS.out j l (List.getElem?_eq_some_iff.1 hj).1 hj)
              subst hrt
              go_wp2_with fail
              go_ret
              exact ⟨rfl, _, HW.out⟩
end Go.Proofs.Ytjojimmfjmchcaa
