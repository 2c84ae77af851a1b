/-
  The walk over merge.Right: is a list of versions right?
-/
import Derived.Test.YteclnnjijfbfoaaMgA
namespace Go.Proofs.Yteclnnjijfbfoaa
open Go.RowKit

set_option maxRecDepth 100000 in
set_option maxHeartbeats 4000000 in
theorem mg_right (w : World) (F : Nat → Prop) (v : Value) (es : List Ent) (h : En w F v es) :
    Calls Try.prog 29 #[v] w fun e w' => e = .returned (.bool (rightE es)) ∧ Below w.heap.size w w' := by
  have HV := Lib.hid h
  obtain ⟨p, cap, rfl, hlc, hl47, hcm, _⟩ := h.form
  obtain ⟨r, hr⟩ : ∃ r, rightE es = r := ⟨_, rfl⟩
  rw [hr]
  have HR := Lib.hid hr
  clear h hr
  go_enter Try.func29, Try.ntmps29
  go_wp2_with fail
  go_loopw [7] (fun i wr => ∃ k : Nat, k ≤ es.length ∧ i = .int .i64 (k : Int) ∧ Below w.heap.size w wr ∧ ∀ j, (hj : j < k) → (hl : j < es.length) → oneE es[j] = true ∧ (0 < j → lessE (es[j - 1]'(by omega)) es[j] = true)) (fun i _ => es.length - (intOf i).toNat)
  case atStart => exact ⟨0, by omega, rfl, Below.refl _ _, fun j hj => by omega⟩
  case round =>
    obtain ⟨k, hk, rfl, hbw, htk⟩ := hrel
    have HBW := Lib.hid hbw
    have HTK := Lib.hid htk
    clear hbw htk
    obtain ⟨wd, hwd⟩ : ∃ wd : World, wd = wr := ⟨_, rfl⟩
    subst hwd
    by_cases hlt : k < es.length
    · have HNo := Lib.hid (fun h => HR.out.symm.trans (rightE_no hlt h))
      obtain ⟨b1, off1, q1, c1, rfl, hb1, _, hV1, d0, d1, d2, d3⟩ := (HV.out.below HBW.out).at_ (List.getElem?_eq_getElem hlt)
      have hone : oneE es[k] = !(es[k].gone && decide (0 < es[k].val.length)) := rfl
      have hways : (oneE es[k] = false ∧ es[k].gone = true ∧ decide ((0 : Int) < (es[k].val.length : Int)) = true ∧ decide (0 < es[k].val.length) = true) ∨
          (oneE es[k] = true ∧ (es[k].gone = false ∨ (es[k].gone = true ∧ decide ((0 : Int) < (es[k].val.length : Int)) = false ∧ decide (0 < es[k].val.length) = false))) := by
        cases hg : es[k].gone
        · exact .inr ⟨by rw [hone, hg]; rfl, .inl rfl⟩
        · by_cases h0 : 0 < es[k].val.length
          · exact .inl ⟨by rw [hone, hg]; simp [h0], rfl, decide_eq_true (by omega), decide_eq_true h0⟩
          · exact .inr ⟨by rw [hone, hg]; simp [h0], .inr ⟨rfl, decide_eq_false (by omega), decide_eq_false h0⟩⟩
      obtain ⟨X, hX⟩ : ∃ X, wd.alloc (.cells #[.string ⟨es[k].key.toArray⟩, .int .u64 (es[k].seq : Int), .bool es[k].gone, .slice q1 es[k].val.length c1] 33) = X := ⟨_, rfl⟩
      have HBX : Hid (Below w.heap.size w X) := Lib.hid (by rw [← hX]; exact HBW.out.alloc HBW.out.size _)
      have hXb : X.heap[wd.heap.size]? = some (.cells #[.string ⟨es[k].key.toArray⟩, .int .u64 (es[k].seq : Int), .bool es[k].gone, .slice q1 es[k].val.length c1] 33 (0, 0)) := by rw [← hX]; exact heap_alloc_new wd _
      have m0 := cell_of (i := 0) hXb rfl
      have m1 := cell_of (i := 1) hXb rfl
      have m2 := cell_of (i := 2) hXb rfl
      have m3 := cell_of (i := 3) hXb rfl
      clear hone hXb hV1 hb1
      by_cases h0 : 0 < k
      · have hkm : k - 1 < es.length := by omega
        obtain ⟨b2, off2, q2, c2, hp2, hb2, _, hV2, e0, e1, e2, e3⟩ := (HV.out.below HBX.out).at_ (List.getElem?_eq_getElem hkm)
        obtain ⟨rfl, rfl⟩ : b1 = b2 ∧ off1 = off2 := by simpa using hp2
        have HC := Lib.hid (mg_compare X.drew es[k - 1] es[k] q2 q1 es[k - 1].val.length es[k].val.length c2 c1)
        have HCG : Hid (0 ≤ cmpE es[k - 1] es[k] ↔ lessE es[k - 1] es[k] = false) := Lib.hid (@cmpE_ge es[k - 1] es[k])
        have HStep : Hid (oneE es[k] = true → lessE es[k - 1] es[k] = true → ∀ j, (hj : j < k + 1) → (hl : j < es.length) → oneE es[j] = true ∧ (0 < j → lessE (es[j - 1]'(by omega)) es[j] = true)) := Lib.hid (fun g1 g2 j hj hl => by
          rcases Nat.lt_or_ge j k with hjk | hjk
          · exact HTK.out j hjk hl
          · obtain rfl : j = k := by omega
            exact ⟨g1, fun _ => g2⟩)
        have HNo2 : Hid (lessE es[k - 1] es[k] = false → r = false) := Lib.hid fun h => HNo.out (.inr ⟨h0, h⟩)
        generalize es[k] = x at *
        generalize es[k - 1] = y at *
        have hwr : IntKind.i64.wrap ((k : Int) - 1) = (k : Int) - 1 := IntWalk.i64_in _ (by omega)
        have hkt : ((k : Int) - 1).toNat = k - 1 := by omega
        have hk1 : (0 : Int) ≤ (k : Int) - 1 := by omega
        have hkl : ((k : Int) - 1) < (es.length : Int) := by omega
        generalize cmpE y x = c at *
        have hz : decide ((0 : Int) < (k : Int)) = true := by simp; omega
        have hzn : decide (0 < k) = true := by simp; omega
        clear hV2 hb2 hp2
        rcases hways with ⟨ho, hg, hq, hqn⟩ | ⟨ho, hg | ⟨hg, hq, hqn⟩⟩
        · rw [hg] at m2 d2 hX
          have hrf := HNo.out (.inl ho)
          subst hrf
          clear ho hg e0 e1 e2 e3
          go_wp2_with fail
          go_quiet (fail)
          go_wp2_with fail
          go_ret
          exact ⟨rfl, below_drewN HBX.out _⟩
        all_goals
          rw [hg] at m2 d2 HC hX
          have HO := Lib.hid ho
          clear ho hg
          go_wp2_with fail
          refine wp_region_quiet_tail 18 (by kernel_rfl) (by kernel_rfl) ?_
          simp only [List.take_succ_cons, List.take_zero, List.drop_succ_cons, List.drop_zero]
          repeat (go_big_quiet_step (fail))
          refine wpQuiet_nil ?_
          clear hwr hkt hk1 hkl
          go_wp2_with fail
          refine HC.out.mono ?_
          rintro e w2 ⟨rfl, hb2⟩
          have HB2 := Lib.hid hb2
          clear hb2 d0 d1 d2 d3 e0 e1 e2 e3 m0 m1 m2 m3
          cases hs : lessE y x
          · have hrf := HNo2.out hs
            subst hrf
            have hcz : decide (0 ≤ c) = true := by simpa using HCG.out.2 hs
            clear hs
            go_wp2_with fail
            go_ret
            exact ⟨rfl, (below_drew HBX.out).trans (HB2.out.mono HBX.out.size)⟩
          · have hcz : decide (0 ≤ c) = false := by
              rcases hd : decide (0 ≤ c) with _ | _
              · rfl
              · have := HCG.out.1 (by simpa using hd)
                rw [this] at hs
                cases hs
            have HS := Lib.hid hs
            clear hs
            go_wp2_with fail
            go_roundw
            case rel => exact ⟨k + 1, by omega, by go_num, (below_drew HBX.out).trans (HB2.out.mono HBX.out.size), HStep.out HO.out HS.out⟩
            case measure => simp [intOf]; omega
      · obtain rfl : k = 0 := by omega
        have HStep : Hid (oneE es[0] = true → ∀ j, (hj : j < 0 + 1) → (hl : j < es.length) → oneE es[j] = true ∧ (0 < j → lessE (es[j - 1]'(by omega)) es[j] = true)) := Lib.hid (fun g1 j hj hl => by
          obtain rfl : j = 0 := by omega
          exact ⟨g1, fun h => absurd h (by omega)⟩)
        generalize es[0] = x at *
        simp only [Nat.zero_mul, Nat.add_zero] at d0 d1 d2 d3
        rcases hways with ⟨ho, hg, hq, hqn⟩ | ⟨ho, hg | ⟨hg, hq, hqn⟩⟩
        · rw [hg] at m2 d2 hX
          have hrf := HNo.out (.inl ho)
          subst hrf
          clear ho hg
          go_wp2_with fail
          go_quiet (fail)
          go_wp2_with fail
          go_ret
          exact ⟨rfl, below_drewN HBX.out _⟩
        all_goals
          rw [hg] at m2 d2 hX
          have HO := Lib.hid ho
          clear ho hg
          go_wp2_with fail
          go_quiet (fail)
          go_wp2_with fail
          go_roundw
          case rel => exact ⟨0 + 1, by omega, by go_num, below_drewN HBX.out _, HStep.out HO.out⟩
          case measure => simp [intOf]; omega
    · have hk2 : k = es.length := by omega
      subst hk2
      have hrt : r = true := by
        rw [← HR.out, rightE_at]
        exact fun j hj => HTK.out j hj hj
      subst hrt
      go_wp2_with fail
      go_ret
      exact ⟨rfl, HBW.out⟩
end Go.Proofs.Yteclnnjijfbfoaa
