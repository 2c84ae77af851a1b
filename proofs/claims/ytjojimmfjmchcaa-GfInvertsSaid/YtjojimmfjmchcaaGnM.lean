/-
  The walk over gf.Inverse.
-/
import Derived.Test.YtjojimmfjmchcaaGnL
import Derived.Test.YtjojimmfjmchcaaGnE
namespace Go.Proofs.Ytjojimmfjmchcaa
open Go.RowKit

set_option maxRecDepth 100000 in
set_option maxHeartbeats 2000000 in
theorem inverse_m (w : World) (F : Nat → Prop) (v : Value) (A : List (List UInt8)) (ha : Mx w F v A) :
    Calls Try.prog 33 #[v] w fun e w' => ∃ x us, e = .returned (.tuple #[x, .int .i64 (inverseR A).2]) ∧ OwL w' (fun k => w.heap.size ≤ k) x us (inverseR A).1 ∧ Below w.heap.size w w' := by
  have HR1 := Lib.hid (right_any w F v A ha)
  have HA := Lib.hid ha
  obtain ⟨pa, ca, rfl, hla, _, hca, _⟩ := ha.form
  cases qa : rightL A
  · have HN := Lib.hid (inverseR_no (A := A) (by rw [qa]; simp))
    rw [qa] at HR1
    clear ha qa
    go_enter Try.func33, Try.ntmps33
    go_wp2_with fail
    refine HR1.out.mono ?_
    rintro e w' ⟨rfl, rfl⟩
    go_wp2_with fail
    refine Go.bodyPost_ret (Go.results_tmp2 rfl _ _ _) rfl ?_
    rw [HN.out]
    exact ⟨_, [], rfl, OwL.nil _ _, Below.refl _ _⟩
  · rw [qa] at HR1
    have ga := right_iff.1 qa
    obtain ⟨b0, o0, q0, c0, rfl, k0⟩ := first_at ha (by omega)
    have hcp : (0 : Int) < (A.length : Int) := by omega
    by_cases hq : A.length = colsL A
    · have z1 : ((A.length : Int) == (colsL A : Int)) = true := by rw [← hq]; simp
      have z2 : (A.length == colsL A) = true := by rw [← hq]; simp
      have HQ := Lib.hid (And.intro qa hq)
      have hE := eachC_any w F _ A A.length (ofL A) ha (by omega) (fun i u l hi hx W hW => by
        have hi2 : i < A.length := (List.getElem?_eq_some_iff.1 hi).1
        have hl : l = rowM A.length (ofL A i) := by
          rw [right_tab qa, tabM_at hi2] at hi
          rw [← Option.some.inj hi, ← hq]
        subst hl
        obtain ⟨q, c, rfl, _⟩ := hx.form
        exact clone_any W F q c _ (hx.below hW) (by rw [rowM_len]; omega) (by rw [rowM_len]; omega))
      have HE := Lib.hid hE
      have hn1 := ga.1.1
      have hn2 := ga.1.2
      clear ha qa ga hq hE
      go_enter Try.func33, Try.ntmps33
      go_wp2_with fail
      refine HR1.out.mono ?_
      rintro e w' ⟨rfl, rfl⟩
      go_wp2_with fail
      refine HE.out.mono ?_
      rintro e w1 ⟨usl, rfl, ho1, hb1⟩
      have HO1 := Lib.hid ho1
      have HB1 := Lib.hid hb1
      have HU := Lib.hid (unit_any w1 A.length hn1 hn2)
      clear ho1 hb1 k0 z1 z2
      go_wp2_with fail
      refine HU.out.mono ?_
      rintro e w2 ⟨usr, rfl, ho2, hb2⟩
      have HO2 := Lib.hid ho2
      have HB2 := Lib.hid hb2
      have HBo := Lib.hid (both_any w2 (.slice (some ⟨w.heap.size, 0, none⟩) A.length A.length) (.slice (some ⟨w1.heap.size, 0, none⟩) A.length A.length) ⟨_, _, _, rfl⟩ ⟨_, _, _, rfl⟩)
      clear ho2 hb2
      go_wp2_with fail
      refine HBo.out.mono ?_
      rintro e w3 ⟨rfl, hx1, hx2, hb3⟩
      have HG : Hid (GaS w3 (fun k => w.heap.size ≤ k ∧ k < w1.heap.size) (fun k => w1.heap.size ≤ k ∧ k < w2.heap.size) (.slice (some ⟨w.heap.size, 0, none⟩) A.length A.length) (.slice (some ⟨w1.heap.size, 0, none⟩) A.length A.length) usl usr w2.heap.size (w2.heap.size + 1) A.length (ofL A) unitF) := Lib.hid (by
        have h1 := HB1.out.size
        have h2 := HB2.out.size
        refine ⟨((HO1.out.mono fun k h1 h2 => ⟨h2, h1⟩).below HB2.out).below hb3, (HO2.out.mono fun k h1 h2 => ⟨h2, h1⟩).below hb3, hx1, hx2, fun k h3 h4 => by omega, ⟨by omega, by omega⟩, by omega, by omega⟩)
      have HB3 : Hid (Below w.heap.size w w3) := Lib.hid ((HB1.out.trans (HB2.out.mono HB1.out.size)).trans (hb3.mono (Nat.le_trans HB1.out.size HB2.out.size)))
      have HSz : Hid (w.heap.size ≤ w1.heap.size) := Lib.hid HB1.out.size
      generalize w2.heap.size = s2 at *
      generalize s2 + 1 = s3 at *
      clear hx1 hx2 hb3
      go_wp2_with fail
      go_loopw [36] (fun i wr => ∃ (k : Nat) (a o : MtF), k ≤ A.length ∧ i = .int .i64 (k : Int) ∧ GaussI A.length (ofL A) a o k ∧ GaS wr (fun k => w.heap.size ≤ k ∧ k < w1.heap.size) (fun k => w1.heap.size ≤ k ∧ k < s2) (.slice (some ⟨w.heap.size, 0, none⟩) A.length A.length) (.slice (some ⟨w1.heap.size, 0, none⟩) A.length A.length) usl usr s2 s3 A.length a o ∧ Below w.heap.size w wr) (fun i _ => A.length - (intOf i).toNat)
      case atStart => exact ⟨0, _, _, by omega, rfl, GaussI.start _ _, HG.out, HB3.out⟩
      case round =>
        obtain ⟨k, a, o, hk, rfl, hgi, hg, hb⟩ := hrel
        have HGi := Lib.hid hgi
        have HGs := Lib.hid hg
        have HBw := Lib.hid hb
        by_cases hlt : k < A.length
        · have d1 : decide ((k : Int) < (A.length : Int)) = true := decide_eq_true (by omega)
          have d2 : decide (k < A.length) = true := decide_eq_true hlt
          have HC := Lib.hid (clear_any wr _ _ _ _ _ _ _ _ A.length k a o hg hlt hn2)
          clear hgi hg hb
          go_wp2_with fail
          refine HC.out.mono ?_
          rintro e w4 ⟨hf, ⟨p, hp1, hp2, hp3, rfl, hg4⟩ | ⟨rfl, hz⟩⟩
          · have HB4 : Hid (Below w.heap.size w w4) := Lib.hid (HBw.out.trans (hf.below HBw.out.size fun x hx h => by
              have := HSz.out
              rcases h with h | h
              · exact absurd h.1 (by omega)
              · exact absurd h.1 (by omega)))
            have HG4 := Lib.hid hg4
            have HGi2 := Lib.hid (HGi.out.turn_on hlt hp1 hp2 hp3)
            clear hg4 hf hp3
            go_wp2_with fail
            refine ⟨⟨k + 1, _, _, by omega, by go_num, HGi2.out, HG4.out, HB4.out⟩, by simp [intOf]; omega⟩
          · have HB4 : Hid (Below w.heap.size w w4) := Lib.hid (HBw.out.trans (hf.below HBw.out.size fun x hx h => by
              have := HSz.out
              rcases h with h | h
              · exact absurd h.1 (by omega)
              · exact absurd h.1 (by omega)))
            have HN := Lib.hid (inverseR_sing HQ.out (gauss_sing HGi.out hlt hz))
            clear hf hz
            go_wp2_with fail
            refine Go.bodyPost_ret (Go.results_tmp2 rfl _ _ _) rfl ?_
            rw [HN.out]
            exact ⟨_, [], rfl, OwL.nil _ _, HB4.out⟩
        · obtain rfl : k = A.length := by omega
          have HN := Lib.hid (inverseR_yes HQ.out (gauss_inv HGi.out))
          clear hgi hg hb
          go_wp2_with fail
          refine Go.bodyPost_ret (Go.results_tmp2 rfl _ _ _) rfl ?_
          rw [HN.out]
          exact ⟨_, usr, rfl, HGs.out.r.mono fun x _ h => Nat.le_trans HSz.out h.1, HBw.out⟩
    · have z1 : ((A.length : Int) == (colsL A : Int)) = false := by simp; omega
      have z2 : (A.length == colsL A) = false := by simp; omega
      have HN := Lib.hid (inverseR_no (A := A) (fun h => hq h.2))
      clear ha qa ga hq
      go_enter Try.func33, Try.ntmps33
      go_wp2_with fail
      refine HR1.out.mono ?_
      rintro e w' ⟨rfl, rfl⟩
      go_wp2_with fail
      refine Go.bodyPost_ret (Go.results_tmp2 rfl _ _ _) rfl ?_
      rw [HN.out]
      exact ⟨_, [], rfl, OwL.nil _ _, Below.refl _ _⟩
end Go.Proofs.Ytjojimmfjmchcaa
