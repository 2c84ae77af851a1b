/-
  The walks over the law's few and Same; gf.Right and the reference's.
-/
import Derived.Test.YtjojimmfjmchcaaGmE
namespace Go.Proofs.Ytjojimmfjmchcaa
open Go.RowKit

set_option maxRecDepth 100000 in
set_option maxHeartbeats 1000000 in
theorem same_any (w : World) (F G : Nat → Prop) (v u : Value) (A B : List (List UInt8)) (ha : Mx w F v A) (hb : Mx w G u B) :
    Calls Try.prog 24 #[v, u] w fun e w' => e = .returned (.bool (decide (A = B))) ∧ ∃ n, w' = w.drewN n := by
  have HA := Lib.hid ha
  have HB := Lib.hid hb
  obtain ⟨pa, ca, rfl, hla, hla2, hca, _⟩ := ha.form
  obtain ⟨pb, cb, rfl, hlb, hlb2, hcb, _⟩ := hb.form
  obtain ⟨r, hr⟩ : ∃ r, decide (A = B) = r := ⟨_, rfl⟩
  have HR := Lib.hid hr
  rw [hr]
  clear ha hb hr
  go_enter Try.func24, Try.ntmps24
  by_cases hl : A.length = B.length
  · have q1 : ((A.length : Int) == (B.length : Int)) = true := by rw [hl]; simp
    have q2 : (A.length == B.length) = true := by rw [hl]; simp
    have HLn := Lib.hid hl
    clear hl
    go_wp2_with fail
    go_loopw [5] (fun i wr => ∃ k m : Nat, k ≤ A.length ∧ i = .int .i64 (k : Int) ∧ (∀ j, j < k → A[j]? = B[j]?) ∧ wr = w.drewN m) (fun i _ => A.length - (intOf i).toNat)
    case atStart => exact ⟨0, 0, by omega, rfl, fun j hj => by omega, rfl⟩
    case round =>
      obtain ⟨k, m, hk, rfl, hs, hwr⟩ := hrel
      have HS := Lib.hid hs
      have HBw : Hid (Below w.heap.size w wr) := Lib.hid (by rw [hwr]; exact below_drewN (Below.refl _ _) m)
      have HW := Lib.hid hwr
      clear hs hwr
      by_cases hlt : k < A.length
      · have d1 : decide ((k : Int) < (A.length : Int)) = true := decide_eq_true (by omega)
        have d2 : decide (k < A.length) = true := decide_eq_true hlt
        have hltB : k < B.length := by have := HLn.out; omega
        obtain ⟨b1, o1, q1', c1, rfl, hb1, _, k1, r1⟩ := (HA.out.below HBw.out).at_ (List.getElem?_eq_getElem hlt)
        obtain ⟨b2, o2, q2', c2, rfl, hb2, _, k2, r2⟩ := (HB.out.below HBw.out).at_ (List.getElem?_eq_getElem hltB)
        have HEq : Hid (A[k]? = some A[k] ∧ B[k]? = some B[k]) := Lib.hid ⟨List.getElem?_eq_getElem hlt, List.getElem?_eq_getElem hltB⟩
        generalize A[k] = la at *
        generalize B[k] = lb at *
        have t1 := fun n => txt_run (r1.below (below_drewN (Below.refl _ _) n)).rd
        have t2 := fun n => txt_run (r2.below (below_drewN (Below.refl _ _) n)).rd
        have hbl : ((k : Int) < (B.length : Int)) := by omega
        have HH := Lib.hid (And.intro hb1 hb2)
        clear r1 r2 hb1 hb2 hltB
        cases q : (la == lb)
        · have hrf : r = false := by
            rw [← HR.out]
            refine decide_eq_false fun e => ?_
            have h := HEq.out
            rw [e, h.2] at h
            have := Option.some.inj h.1
            subst this
            simp at q
          subst hrf
          go_wp2_with fail
          go_quiet (fail)
          go_wp2_with fail
          go_ret
          exact ⟨rfl, _, by rw [HW.out, World.drewN_drewN]⟩
        · have HLb : Hid (la = lb) := Lib.hid (by simpa using q)
          go_wp2_with fail
          go_quiet (fail)
          go_wp2_with fail
          refine ⟨⟨k + 1, _, by omega, by go_num, fun j hj => ?_, by rw [HW.out, World.drewN_drewN]⟩, by simp [intOf]; omega⟩
          rcases Nat.lt_or_ge j k with h | h
          · exact HS.out j h
          · obtain rfl : j = k := by omega
            rw [HEq.out.1, HEq.out.2, HLb.out]
      · obtain rfl : k = A.length := by omega
        have hrt : r = true := by
          rw [← HR.out]
          refine decide_eq_true (List.ext_getElem? fun j => ?_)
          by_cases hj : j < A.length
          · exact HS.out j hj
          · rw [List.getElem?_eq_none (by omega), List.getElem?_eq_none (by have := HLn.out; omega)]
        subst hrt
        go_wp2_with fail
        go_ret
        exact ⟨rfl, _, HW.out⟩
  · have q1 : ((A.length : Int) == (B.length : Int)) = false := by simp; omega
    have q2 : (A.length == B.length) = false := by simp; omega
    have hrf : r = false := by
      rw [← HR.out]
      exact decide_eq_false fun e => hl (by rw [e])
    subst hrf
    clear hl
    go_wp2_with fail
    go_ret
    exact ⟨rfl, 0, rfl⟩

def sumL (rows : List (List UInt8)) : Nat := (rows.map fun l => 1 + l.length).sum
def fewM (rows : List (List UInt8)) : Bool := decide (sumL rows ≤ 2000)
theorem sumL_app (a b : List (List UInt8)) : sumL (a ++ b) = sumL a + sumL b := by simp [sumL]
theorem sumL_le : ∀ (rows : List (List UInt8)) (M : Nat), (∀ l ∈ rows, l.length ≤ M) → sumL rows ≤ rows.length * (M + 1)
  | [], _, _ => by simp [sumL]
  | l :: r, M, h => by
    have h1 := sumL_le r M fun x hx => h x (.tail _ hx)
    have h2 := h l (.head _)
    unfold sumL at h1 ⊢
    rw [List.map_cons, List.sum_cons, List.length_cons, Nat.succ_mul]
    omega
theorem sumL_mem : ∀ (rows : List (List UInt8)) (l : List UInt8), l ∈ rows → l.length ≤ sumL rows
  | [], _, h => by cases h
  | x :: r, l, h => by
    unfold sumL
    rw [List.map_cons, List.sum_cons]
    rcases List.mem_cons.1 h with rfl | h
    · omega
    · have := sumL_mem r l h
      unfold sumL at this
      omega
theorem sumL_len : ∀ (rows : List (List UInt8)), rows.length ≤ sumL rows
  | [] => by simp
  | x :: r => by
    have := sumL_len r
    unfold sumL at this ⊢
    rw [List.map_cons, List.sum_cons, List.length_cons]
    omega
set_option maxRecDepth 100000 in
set_option maxHeartbeats 1000000 in
theorem few_any (w : World) (F : Nat → Prop) (v : Value) (A : List (List UInt8)) (ha : Mx w F v A) (h1 : A.length ≤ 1048576) (h2 : ∀ l ∈ A, l.length ≤ 1048576) :
    Calls Try.prog 21 #[v] w fun e w' => e = .returned (.bool (fewM A)) ∧ w = w' := by
  have HA := Lib.hid ha
  obtain ⟨pa, ca, rfl, hla, hla2, hca, _⟩ := ha.form
  have HM := Lib.hid h2
  have HS : Hid (∀ k, sumL (A.take k) ≤ 1099512676352) := Lib.hid (fun k => by
    have h3 := sumL_le (A.take k) 1048576 fun l hl => h2 l (List.mem_of_mem_take hl)
    have h4 : (A.take k).length ≤ 1048576 := by rw [List.length_take]; omega
    have h5 := Nat.mul_le_mul_right (1048576 + 1) h4
    omega)
  obtain ⟨r, hr⟩ : ∃ r, fewM A = r := ⟨_, rfl⟩
  have HR := Lib.hid hr
  rw [hr]
  clear ha h2 hr
  go_enter Try.func21, Try.ntmps21
  go_wp2_with fail
  go_loop [3, 4] (fun n i => ∃ k : Nat, k ≤ A.length ∧ i = .int .i64 (k : Int) ∧ n = .int .i64 (sumL (A.take k) : Int)) (fun _ i => A.length - (intOf i).toNat)
  case atStart => exact ⟨0, by omega, rfl, by simp [sumL]⟩
  case round =>
    obtain ⟨k, hk, rfl, rfl⟩ := hrel
    have hs := HS.out k
    by_cases hlt : k < A.length
    · have d1 : decide ((k : Int) < (A.length : Int)) = true := decide_eq_true (by omega)
      have d2 : decide (k < A.length) = true := decide_eq_true hlt
      obtain ⟨b1, o1, q1', c1, rfl, hb1, _, k1, r1⟩ := HA.out.at_ (List.getElem?_eq_getElem hlt)
      have hmem := HM.out A[k] (List.getElem_mem hlt)
      have HT : Hid (sumL (A.take (k + 1)) = sumL (A.take k) + 1 + A[k].length) := Lib.hid (by
        rw [take_snoc A k _ (List.getElem?_eq_getElem hlt), sumL_app]
        simp [sumL]
        omega)
      generalize sumL (A.take k) = T at *
      generalize A[k] = la at *
      clear r1
      go_wp2_with fail
      go_round
      case rel => exact ⟨k + 1, by omega, by go_num, by rw [HT.out]; go_num⟩
      case measure => simp [intOf]; omega
    · obtain rfl : k = A.length := by omega
      have hT : decide (((sumL (A.take A.length) : Nat) : Int) ≤ 2000) = r := by
        rw [← HR.out]
        unfold fewM
        rw [List.take_length, Bool.eq_iff_iff]
        simp only [decide_eq_true_eq]
        omega
      generalize sumL (A.take A.length) = T at *
      have HTT := Lib.hid hT
      clear hT
      go_wp2_with fail
      go_ret
      refine ⟨?_, rfl⟩
      rw [← HTT.out]
      first | rfl | (simp; done)

set_option maxRecDepth 100000 in
set_option maxHeartbeats 1000000 in
theorem index_any (w : World) (F : Nat → Prop) (v : Value) (A : List (List UInt8)) (ha : Mx w F v A) (h0 : 0 < A.length) :
    Calls Try.prog 58 #[v, .func (.func 45) #[v] #[]] w fun e w' => ∃ z : Int, e = .returned (.int .i64 z) ∧ decide (0 ≤ z) = !(A.all fun l => decide (l.length = colsL A)) ∧ w = w' := by
  have HA := Lib.hid ha
  obtain ⟨pa, ca, rfl, hla, hla2, hca, _⟩ := ha.form
  obtain ⟨b0, o0, q0, c0, rfl, hb0, _, k0, r0⟩ := ha.at_ (List.getElem?_eq_getElem h0)
  rw [Nat.add_zero] at k0
  have hc : colsL A = A[0].length := by
    unfold colsL
    rw [List.getD_eq_getElem?_getD, List.getElem?_eq_getElem h0]
    rfl
  have HC := Lib.hid hc
  generalize A[0].length = C at *
  clear ha r0 hc
  go_enter Try.func58, Try.ntmps58
  go_wp2_with fail
  go_loop [8] (fun i => ∃ k : Nat, k ≤ A.length ∧ i = .int .i64 (k : Int) ∧ ∀ j l, j < k → A[j]? = some l → l.length = C) (fun i => A.length - (intOf i).toNat)
  case atStart => exact ⟨0, by omega, rfl, fun j l hj => by omega⟩
  case round =>
    obtain ⟨k, hk, rfl, hs⟩ := hrel
    have HS := Lib.hid hs
    clear hs
    by_cases hlt : k < A.length
    · have d1 : decide ((k : Int) < (A.length : Int)) = true := decide_eq_true (by omega)
      have d2 : decide (k < A.length) = true := decide_eq_true hlt
      obtain ⟨b1, o1, q1', c1, hp1, hb1, _, k1, r1⟩ := HA.out.at_ (List.getElem?_eq_getElem hlt)
      obtain ⟨rfl, rfl⟩ : b0 = b1 ∧ o0 = o1 := by simpa using hp1
      have HK : Hid (A[k]? = some A[k]) := Lib.hid (List.getElem?_eq_getElem hlt)
      generalize A[k] = la at *
      clear r1 hp1
      by_cases hq : la.length = C
      · have q1 : ((la.length : Int) == (C : Int)) = true := by rw [hq]; simp
        have q2 : (la.length == C) = true := by rw [hq]; simp
        have HQ := Lib.hid hq
        clear hq
        go_wp2
        refine ⟨⟨k + 1, by omega, by go_num, fun j l hj hl => ?_⟩, by simp [intOf]; omega⟩
        rcases Nat.lt_or_ge j k with h | h
        · exact HS.out j l h hl
        · obtain rfl : j = k := by omega
          rw [HK.out] at hl
          obtain rfl := Option.some.inj hl
          exact HQ.out
      · have q1 : ((la.length : Int) == (C : Int)) = false := by simp; omega
        have q2 : (la.length == C) = false := by simp; omega
        have HQ := Lib.hid hq
        clear hq
        go_wp2
        go_ret
        refine ⟨(k : Int), rfl, ?_, rfl⟩
        rw [decide_eq_true (show (0 : Int) ≤ (k : Int) by omega)]
        have : (A.all fun l => decide (l.length = colsL A)) = false := by
          rcases e : (A.all fun l => decide (l.length = colsL A)) with _ | _
          · rfl
          · have h1 := List.all_eq_true.1 e la (List.mem_of_getElem? HK.out)
            rw [HC.out] at h1
            exact absurd (of_decide_eq_true h1) HQ.out
        rw [this]
        rfl
    · obtain rfl : k = A.length := by omega
      go_wp2_with fail
      go_ret
      refine ⟨-1, rfl, ?_, rfl⟩
      have : (A.all fun l => decide (l.length = colsL A)) = true := List.all_eq_true.2 fun l hl => by
        obtain ⟨j, hj⟩ := List.getElem?_of_mem hl
        rw [HC.out]
        exact decide_eq_true (HS.out j l (List.getElem?_eq_some_iff.1 hj).1 hj)
      rw [this]
      rfl
end Go.Proofs.Ytjojimmfjmchcaa
