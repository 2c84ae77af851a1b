/-
  The walks over gf.Times and gf.Apply.
-/
import Derived.Test.YtjojimmfjmchcaaGnD
import Derived.Test.YtjojimmfjmchcaaGmG
namespace Go.Proofs.Ytjojimmfjmchcaa
open Go.RowKit

/-- What Times tells. -/
def timesR (A B : List (List UInt8)) : List (List UInt8) × Int := if rightL A = true ∧ rightL B = true ∧ colsL A = B.length then (tabM A.length (colsL B) (prodF B.length (ofL A) (ofL B)), 0) else ([], 1)
theorem timesR_no {A B : List (List UInt8)} (h : ¬(rightL A = true ∧ rightL B = true ∧ colsL A = B.length)) : timesR A B = ([], 1) := if_neg h
theorem timesR_yes {A B : List (List UInt8)} (h : rightL A = true ∧ rightL B = true ∧ colsL A = B.length) : timesR A B = (tabM A.length (colsL B) (prodF B.length (ofL A) (ofL B)), 0) := if_pos h
theorem first_at {w : World} {F : Nat → Prop} {p : Option Addr} {m cap : Nat} {A : List (List UInt8)} (h : Mx w F (.slice p m cap) A) (h0 : 0 < A.length) :
    ∃ b off q c, p = some ⟨b, off, none⟩ ∧ w.cell? ⟨b, off, none⟩ = some (.slice q (colsL A) c) := by
  obtain ⟨b, off, q, c, e, _, _, hc, _⟩ := h.at_ (List.getElem?_eq_getElem h0)
  have hcc : colsL A = A[0].length := by
    unfold colsL
    rw [List.getD_eq_getElem?_getD, List.getElem?_eq_getElem h0]
    rfl
  rw [← hcc, Nat.add_zero] at hc
  exact ⟨b, off, q, c, e, hc⟩
set_option maxRecDepth 100000 in
set_option maxHeartbeats 2000000 in
theorem times_m (w : World) (F F' : Nat → Prop) (v u : Value) (A B : List (List UInt8)) (ha : Mx w F v A) (hb : Mx w F' u B) :
    Calls Try.prog 29 #[v, u] w fun e w' => ∃ x us, e = .returned (.tuple #[x, .int .i64 (timesR A B).2]) ∧ OwL w' (fun k => w.heap.size ≤ k) x us (timesR A B).1 ∧ Below w.heap.size w w' := by
  have HA := Lib.hid ha
  have HB := Lib.hid hb
  have HR1 := Lib.hid (right_any w F v A ha)
  have HR2 := Lib.hid (right_any w F' u B hb)
  obtain ⟨pa, ca, rfl, hla, _, hca, _⟩ := ha.form
  obtain ⟨pb, cb, rfl, hlb, _, hcb, _⟩ := hb.form
  cases qa : rightL A
  · rw [timesR_no (by rw [qa]; simp)]
    rw [qa] at HR1
    clear ha hb qa
    go_enter Try.func29, Try.ntmps29
    go_wp2_with fail
    refine HR1.out.mono ?_
    rintro e w' ⟨rfl, rfl⟩
    go_wp2_with fail
    refine Go.bodyPost_ret (Go.results_tmp2 rfl _ _ _) rfl ?_
    exact ⟨_, [], rfl, OwL.nil _ _, Below.refl _ _⟩
  · rw [qa] at HR1
    have ga := right_iff.1 qa
    cases qb : rightL B
    · rw [timesR_no (by rw [qb]; simp)]
      rw [qb] at HR2
      clear ha hb qb qa ga
      go_enter Try.func29, Try.ntmps29
      go_wp2_with fail
      refine HR1.out.mono ?_
      rintro e w' ⟨rfl, rfl⟩
      go_wp2_with fail
      refine HR2.out.mono ?_
      rintro e w' ⟨rfl, rfl⟩
      go_wp2_with fail
      refine Go.bodyPost_ret (Go.results_tmp2 rfl _ _ _) rfl ?_
      exact ⟨_, [], rfl, OwL.nil _ _, Below.refl _ _⟩
    · rw [qb] at HR2
      have gb := right_iff.1 qb
      obtain ⟨b0, o0, q0, c0, rfl, k0⟩ := first_at ha (by omega)
      have hcp : (0 : Int) < (A.length : Int) := by omega
      by_cases hq : colsL A = B.length
      · have z1 : ((colsL A : Int) == (B.length : Int)) = true := by rw [hq]; simp
        have z2 : (colsL A == B.length) = true := by rw [hq]; simp
        rw [timesR_yes ⟨qa, qb, hq⟩]
        have HE := Lib.hid (eachM_any w F _ A (colsL B) (prodF B.length (ofL A) (ofL B)) (.slice pb B.length cb) ha (by omega) (fun i x l hi hx W hW => by
          have hb2 := (HB.out.below hW)
          rw [right_tab qb] at hb2
          have hi2 : i < A.length := (List.getElem?_eq_some_iff.1 hi).1
          have hl : l = rowM B.length (ofL A i) := by
            rw [right_tab qa, tabM_at hi2] at hi
            rw [← Option.some.inj hi, hq]
          rw [hl] at hx
          rw [show (.slice pb B.length cb : Value) = .slice pb (tabM B.length (colsL B) (ofL B)).length cb by rw [tabM_len]]
          exact mixed_any W F' F _ x B.length (colsL B) (ofL B) (ofL A i) hb2 (hx.below hW) (by omega) (by omega) (by omega) (by omega)))
        clear ha hb qb qa ga gb hq
        go_enter Try.func29, Try.ntmps29
        go_wp2_with fail
        refine HR1.out.mono ?_
        rintro e w' ⟨rfl, rfl⟩
        go_wp2_with fail
        refine HR2.out.mono ?_
        rintro e w' ⟨rfl, rfl⟩
        go_wp2_with fail
        refine HE.out.mono ?_
        rintro e w2 ⟨us, rfl, ho2, hb2⟩
        have HO2 := Lib.hid ho2
        have HB2 := Lib.hid hb2
        clear ho2 hb2
        go_wp2_with fail
        refine Go.bodyPost_ret (Go.results_tmp2 rfl _ _ _) rfl ?_
        exact ⟨_, us, rfl, HO2.out, HB2.out⟩
      · have z1 : ((colsL A : Int) == (B.length : Int)) = false := by simp; omega
        have z2 : (colsL A == B.length) = false := by simp; omega
        rw [timesR_no (fun h => hq h.2.2)]
        clear ha hb qb qa ga gb hq
        go_enter Try.func29, Try.ntmps29
        go_wp2_with fail
        refine HR1.out.mono ?_
        rintro e w' ⟨rfl, rfl⟩
        go_wp2_with fail
        refine HR2.out.mono ?_
        rintro e w' ⟨rfl, rfl⟩
        go_wp2_with fail
        refine Go.bodyPost_ret (Go.results_tmp2 rfl _ _ _) rfl ?_
        exact ⟨_, [], rfl, OwL.nil _ _, Below.refl _ _⟩
end Go.Proofs.Ytjojimmfjmchcaa
