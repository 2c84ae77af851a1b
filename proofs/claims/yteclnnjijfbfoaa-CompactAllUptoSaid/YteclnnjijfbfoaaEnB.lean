/-
  The walks over functions that go over versions and only read them: glacierlaw5.Few, SameRows, glacierref6.Right, glacierref5.From.
-/
import Derived.Test.YteclnnjijfbfoaaEnA
import Derived.Deep.CutBlock
import Derived.BigQuiet
import Derived.Deep.QuietTactic
import Derived.StillTailTactics
namespace Go.Proofs.Yteclnnjijfbfoaa
open Go.RowKit

theorem En.drew {w : World} {F : Nat → Prop} {v : Value} {es : List Ent} (h : En w F v es) : En w.drew F v es := h.below (below_drew (Below.refl _ _))
theorem By.drew {w : World} {F : Nat → Prop} {v : Value} {l : List UInt8} (h : By w F v l) : By w.drew F v l := h.below (below_drew (Below.refl _ _))

set_option maxRecDepth 100000 in
set_option maxHeartbeats 4000000 in
theorem l5_few (w : World) (F : Nat → Prop) (v : Value) (es : List Ent) (h : En w F v es) (hf : ∀ x ∈ es, FitE x) (hl : es.length ≤ 1048576) (most : Int) :
    Calls Try.prog 6 #[v, .int .i64 most] w fun e w' => e = .returned (.bool (fewE es most)) ∧ ∃ n, w' = w.drewN n := by
  have HV := Lib.hid h
  have HF := Lib.hid hf
  obtain ⟨r, hr⟩ : ∃ r, fewE es most = r := ⟨_, rfl⟩
  have HR := Lib.hid hr
  have hle := bulkE_fit es hf
  have hct : bulkE es ≤ 2305843009213693952 := by omega
  obtain ⟨p, cap, rfl, hlc, hl47, hcm, _⟩ := h.form
  rw [hr]
  clear h hf hr hle
  go_enter Try.func6, Try.ntmps6
  go_wp2_with fail
  go_loopw [5, 6] (fun n i wr => ∃ (k m : Nat), k ≤ es.length ∧ n = .int .i64 (bulkE (es.take k) : Int) ∧ i = .int .i64 (k : Int) ∧ wr = w.drewN m) (fun _ i _ => es.length - (intOf i).toNat)
  case atStart => exact ⟨0, 0, by omega, by simp [bulkE], rfl, rfl⟩
  case round =>
    obtain ⟨k, m, hk, rfl, rfl, rfl⟩ := hrel
    have hck := bulkE_take es k
    by_cases hlt : k < es.length
    · obtain ⟨b, off, q, c, rfl, hb, hFb, hV, d0, d1, d2, d3⟩ := HV.out.at_ (List.getElem?_eq_getElem hlt)
      have HSn := Lib.hid (bulkE_snoc es k hlt)
      have HSt := bulkE_take es (k + 1)
      have hfit := HF.out es[k] (List.getElem_mem hlt)
      have hx1 := hfit.key
      have hx2 := hfit.val
      have hsz : (⟨es[k].key.toArray⟩ : ByteArray).size = es[k].key.length := by simp [ByteArray.size]
      generalize es[k] = x at *
      rw [HSn.out] at HSt
      generalize hC : bulkE (es.take k) = C at *
      clear hV hfit hC d1 d2
      go_wp2_with fail
      go_quiet (fail)
      go_wp2_with fail
      go_roundw
      case rel => exact ⟨k + 1, _, by omega, by rw [HSn.out]; go_num, by go_num, rfl⟩
      case measure => simp [intOf]; omega
    · have hk2 : k = es.length := by omega
      subst hk2
      rw [List.take_length]
      by_cases q1 : (es.length : Int) ≤ most
      · by_cases q2 : bulkE es ≤ 131072
        · have hrt : r = true := by rw [← HR.out]; simp [fewE, q1, q2]
          subst hrt
          generalize bulkE es = C at *
          go_wp2_with fail
          go_ret
          exact ⟨by first | rfl | (simp; omega), _, rfl⟩
        · have hrt : r = false := by rw [← HR.out]; simp [fewE, q2]
          subst hrt
          generalize bulkE es = C at *
          go_wp2_with fail
          go_ret
          exact ⟨by first | rfl | (simp; omega), _, rfl⟩
      · have hrt : r = false := by rw [← HR.out]; simp [fewE, q1]
        subst hrt
        go_wp2_with fail
        go_ret
        exact ⟨by first | rfl | (simp; omega), _, rfl⟩

set_option maxRecDepth 100000 in
set_option maxHeartbeats 4000000 in
theorem l5_sameRows (w : World) (F G : Nat → Prop) (v u : Value) (a b : List Ent) (ha : En w F v a) (hbb : En w G u b) :
    Calls Try.prog 11 #[v, u] w fun e w' => e = .returned (.bool (sameL a b)) ∧ Below w.heap.size w w' := by
  have HA := Lib.hid ha
  have HB := Lib.hid hbb
  obtain ⟨p, cap, rfl, hlc, hl47, hcm, _⟩ := ha.form
  obtain ⟨p2, cap2, rfl, hlc2, hl472, hcm2, _⟩ := hbb.form
  obtain ⟨r, hr⟩ : ∃ r, sameL a b = r := ⟨_, rfl⟩
  rw [hr]
  have HR := Lib.hid hr
  clear ha hbb hr
  by_cases hlen : a.length = b.length
  · have q0 : ((a.length : Int) == (b.length : Int)) = true := by simp [hlen]
    have q0n : (a.length == b.length) = true := by simp [hlen]
    have q0m : ((a.length : Int) != (b.length : Int)) = false := by simp [hlen]
    have HL := Lib.hid hlen
    clear hlen
    go_enter Try.func11, Try.ntmps11
    go_wp2_with fail
    clear q0 q0n q0m
    go_loopw [5] (fun i wr => ∃ k : Nat, k ≤ a.length ∧ i = .int .i64 (k : Int) ∧ Below w.heap.size w wr ∧ a.take k = b.take k) (fun i _ => a.length - (intOf i).toNat)
    case atStart => exact ⟨0, by omega, rfl, Below.refl _ _, by simp⟩
    case round =>
      obtain ⟨k, hk, rfl, hbw, htk⟩ := hrel
      have HBW := Lib.hid hbw
      have HTK := Lib.hid htk
      clear hbw htk
      by_cases hlt : k < a.length
      · have hlt2 : k < b.length := by have := HL.out; omega
        obtain ⟨b1, off1, q1, c1, rfl, hb1, _, hV1, d0, d1, d2, d3⟩ := (HA.out.below HBW.out).at_ (List.getElem?_eq_getElem hlt)
        obtain ⟨b2, off2, q2, c2, rfl, hb2, _, hV2, e0, e1, e2, e3⟩ := (HB.out.below HBW.out).at_ (List.getElem?_eq_getElem hlt2)
        have HC := Lib.hid (l5_same wr.drew a[k] b[k] F G q1 q2 c1 c2 hV1.drew hV2.drew)
        have HS1 := Lib.hid (take_snoc a k _ (List.getElem?_eq_getElem hlt))
        have HS2 := Lib.hid (take_snoc b k _ (List.getElem?_eq_getElem hlt2))
        have HE : Hid (sameE a[k] b[k] = false → r = false) := Lib.hid (fun hs => by
          rw [← HR.out]
          rcases hq : sameL a b with _ | _
          · rfl
          · rw [sameL_iff] at hq
            subst hq
            rw [sameE_refl] at hs
            cases hs)
        have HE2 : Hid (sameE a[k] b[k] = true → a[k] = b[k]) := Lib.hid sameE_iff.1
        generalize a[k] = x at *
        generalize b[k] = y at *
        clear hV1 hV2 hb1 hb2
        go_wp2_with fail
        go_still_tail 8, (by kernel_rfl)
        change wpList _ _ _ _ _ wr.drew
        go_wp2_with fail
        refine HC.out.mono ?_
        rintro e w2 ⟨rfl, hb2⟩
        have HB2 := Lib.hid hb2
        clear hb2 d0 d1 d2 d3 e0 e1 e2 e3
        cases hs : sameE x y
        · have hrf := HE.out hs
          subst hrf
          go_wp2_with fail
          go_ret
          exact ⟨rfl, (below_drew HBW.out).trans (HB2.out.mono HBW.out.size)⟩
        · have HXY := Lib.hid (HE2.out hs)
          go_wp2_with fail
          go_roundw
          case rel => exact ⟨k + 1, by omega, by go_num, (below_drew HBW.out).trans (HB2.out.mono HBW.out.size), by rw [HS1.out, HS2.out, HTK.out, HXY.out]⟩
          case measure => simp [intOf]; omega
      · have hk2 : k = a.length := by omega
        subst hk2
        have hrt : r = true := by
          rw [← HR.out, sameL_iff]
          have := HTK.out
          rw [List.take_length, List.take_of_length_le (by rw [HL.out]; exact Nat.le_refl _)] at this
          exact this
        subst hrt
        go_wp2_with fail
        go_ret
        exact ⟨rfl, HBW.out⟩
  · have q0 : ((a.length : Int) == (b.length : Int)) = false := by simp; omega
    have q0n : (a.length == b.length) = false := by simp; omega
    have q0m : ((a.length : Int) != (b.length : Int)) = true := by simp; omega
    have hrf : r = false := by
      rw [← HR.out]
      rcases hq : sameL a b with _ | _
      · rfl
      · rw [sameL_iff] at hq
        exact absurd (congrArg List.length hq) hlen
    subst hrf
    clear hlen
    go_enter Try.func11, Try.ntmps11
    go_wp2_with fail
    go_ret
    exact ⟨rfl, Below.refl _ _⟩
end Go.Proofs.Yteclnnjijfbfoaa
