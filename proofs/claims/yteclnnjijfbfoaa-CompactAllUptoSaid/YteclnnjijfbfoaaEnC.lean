/-
  The walk over glacierref6.Right: is a list of versions right?
-/
import Derived.Test.YteclnnjijfbfoaaEnB
import Derived.IntWalk
import Derived.Deep.RegionHeld3
namespace Go.Proofs.Yteclnnjijfbfoaa
open Go.RowKit

/-- A quiet walk of one world is a still one. -/
theorem still_of_quiet {P : Program} {ops : Array Oper} {w : World} {Q : Act → Prop} : ∀ (l : List Oper) (a : Act), wpQuiet P ops (fun w' => w' = w) Q l a → wpStill P ops w Q l a
  | [], _, h => h
  | o :: rest, a, h => by
    unfold wpQuiet at h
    unfold wpStill
    split
    · rename_i hw
      rw [if_pos hw] at h
      obtain ⟨v, h1, h2⟩ := h
      have h3 := h1 w rfl
      have h4 := still_of_quiet rest _ h2
      unfold Oper.quietAt at h3
      unfold Oper.still
      generalize (execOp a.eval o).run P w = r at *
      cases r with
      | ok n w' =>
        cases n with
        | value u =>
          simp only [Oper.quietUpon] at h3
          obtain ⟨rfl, rfl⟩ := h3
          exact ⟨rfl, h4⟩
        | skip =>
          simp only [Oper.quietUpon] at h3
          obtain ⟨rfl, rfl⟩ := h3
          exact ⟨rfl, h4⟩
        | enter f args =>
          simp only [Oper.quietUpon] at h3
          exact ⟨h3.1, v, h3.2, h4⟩
        | _ => simp only [Oper.quietUpon] at h3
      | halt x w' => simp only [Oper.quietUpon] at h3
    · rename_i hw
      rw [if_neg hw] at h
      exact still_of_quiet rest _ h
/-- A region whose first n operations only read (some of them behind guards), and whose others stand in one order. -/
theorem wp_region_quiet_tail {P : Program} {id : Nat} {Q : Exit → Act → World → Prop} {a : Act} {w : World} {l : List Oper} (n : Nat) (hm : P.follows .mixedOrders = true) (hB : Region.lexTailB .any l.toArray n = true)
    (h : wpQuiet P l.toArray (fun w' => w' = w.drew) (fun a' => wpList P l.toArray Q (l.drop n) a' w.drew) (l.take n) a) : (Code.region id l.toArray true).wp P Q a w :=
  wp_region_still_tail n hm hB (still_of_quiet _ _ h)

theorem rightE_no {l : List Ent} {k : Nat} (hk : k < l.length) (h : oneE l[k] = false ∨ (0 < k ∧ lessE (l[k - 1]'(by omega)) l[k] = false)) : rightE l = false := by
  rcases hq : rightE l with _ | _
  · rfl
  · obtain ⟨h1, h2⟩ := (rightE_at.1 hq) k hk
    rcases h with h | ⟨h0, h⟩
    · rw [h1] at h; cases h
    · rw [h2 h0] at h; cases h

set_option maxRecDepth 100000 in
set_option maxHeartbeats 4000000 in
theorem r6_right (w : World) (F : Nat → Prop) (v : Value) (es : List Ent) (h : En w F v es) :
    Calls Try.prog 7 #[v] w fun e w' => e = .returned (.bool (rightE es)) ∧ Below w.heap.size w w' := by
  have HV := Lib.hid h
  obtain ⟨p, cap, rfl, hlc, hl47, hcm, _⟩ := h.form
  obtain ⟨r, hr⟩ : ∃ r, rightE es = r := ⟨_, rfl⟩
  rw [hr]
  have HR := Lib.hid hr
  clear h hr
  go_enter Try.func7, Try.ntmps7
  go_wp2_with fail
  go_loopw [3] (fun i wr => ∃ k : Nat, k ≤ es.length ∧ i = .int .i64 (k : Int) ∧ Below w.heap.size w wr ∧ ∀ j, (hj : j < k) → (hl : j < es.length) → oneE es[j] = true ∧ (0 < j → lessE (es[j - 1]'(by omega)) es[j] = true)) (fun i _ => es.length - (intOf i).toNat)
  case atStart => exact ⟨0, by omega, rfl, Below.refl _ _, fun j hj => by omega⟩
  case round =>
    obtain ⟨k, hk, rfl, hbw, htk⟩ := hrel
    have HBW := Lib.hid hbw
    have HTK := Lib.hid htk
    clear hbw htk
    by_cases hlt : k < es.length
    · have HNo := Lib.hid (fun h => HR.out.symm.trans (rightE_no hlt h))
      obtain ⟨b1, off1, q1, c1, rfl, hb1, _, hV1, d0, d1, d2, d3⟩ := (HV.out.below HBW.out).at_ (List.getElem?_eq_getElem hlt)
      have hone : oneE es[k] = !(es[k].gone && decide (0 < es[k].val.length)) := rfl
      have hways : (oneE es[k] = false ∧ es[k].gone = true ∧ decide ((0 : Int) < (es[k].val.length : Int)) = true ∧ decide (0 < es[k].val.length) = true) ∨
          (oneE es[k] = true ∧ (es[k].gone = false ∨ (es[k].gone = true ∧ decide ((0 : Int) < (es[k].val.length : Int)) = false ∧ decide (0 < es[k].val.length) = false))) := by
        cases hg : es[k].gone
        · exact .inr ⟨by rw [hone, hg]; rfl, .inl rfl⟩
        · by_cases h0 : 0 < es[k].val.length
          · exact .inl ⟨by rw [hone, hg]; simp [h0], rfl, decide_eq_true (by omega), decide_eq_true h0⟩
          · exact .inr ⟨by rw [hone, hg]; simp [h0], .inr ⟨rfl, decide_eq_false (by omega), decide_eq_false h0⟩⟩
      have HLt := Lib.hid hb1
      clear hone
      by_cases h0 : 0 < k
      · have hkm : k - 1 < es.length := by omega
        obtain ⟨b2, off2, q2, c2, hp2, hb2, _, hV2, e0, e1, e2, e3⟩ := (HV.out.below HBW.out).at_ (List.getElem?_eq_getElem hkm)
        obtain ⟨rfl, rfl⟩ : b1 = b2 ∧ off1 = off2 := by simpa using hp2
        have HC := Lib.hid (r6_compare wr.drew es[k - 1] es[k] q2 q1 es[k - 1].val.length es[k].val.length c2 c1)
        have HCG : Hid (0 ≤ cmpE es[k - 1] es[k] ↔ lessE es[k - 1] es[k] = false) := Lib.hid (@cmpE_ge es[k - 1] es[k])
        have HStep : Hid (oneE es[k] = true → lessE es[k - 1] es[k] = true → ∀ j, (hj : j < k + 1) → (hl : j < es.length) → oneE es[j] = true ∧ (0 < j → lessE (es[j - 1]'(by omega)) es[j] = true)) := Lib.hid (fun g1 g2 j hj hl => by
          rcases Nat.lt_or_ge j k with hjk | hjk
          · exact HTK.out j hjk hl
          · obtain rfl : j = k := by omega
            exact ⟨g1, fun _ => g2⟩)
        have HNo2 : Hid (lessE es[k - 1] es[k] = false → r = false) := Lib.hid fun h => HNo.out (.inr ⟨h0, h⟩)
        generalize es[k] = x at *
        generalize es[k - 1] = y at *
        have hwr : IntKind.i64.wrap ((k : Int) - 1) = (k : Int) - 1 := IntWalk.i64_in _ (by omega)
        have hkt : ((k : Int) - 1).toNat = k - 1 := by omega
        have hk1 : (0 : Int) ≤ (k : Int) - 1 := by omega
        have hkl : ((k : Int) - 1) < (es.length : Int) := by omega
        generalize cmpE y x = c at *
        have hz : decide ((0 : Int) < (k : Int)) = true := by simp; omega
        have hzn : decide (0 < k) = true := by simp; omega
        clear hV1 hV2 hb1 hb2 hp2
        rcases hways with ⟨ho, hg, hq, hqn⟩ | ⟨ho, hg | ⟨hg, hq, hqn⟩⟩
        · rw [hg] at d2
          have hrf := HNo.out (.inl ho)
          subst hrf
          clear ho hg e0 e1 e2 e3
          go_wp2_with fail
          go_quiet (fail)
          go_wp2_with fail
          go_ret
          exact ⟨rfl, below_drewN HBW.out _⟩
        all_goals
          rw [hg] at d2 HC
          have HO := Lib.hid ho
          clear ho hg
          go_wp2_with fail
          refine wp_region_quiet_tail 27 (by kernel_rfl) (by kernel_rfl) ?_
          simp only [List.take_succ_cons, List.take_zero, List.drop_succ_cons, List.drop_zero]
          repeat (go_big_quiet_step (fail))
          refine wpQuiet_nil ?_
          clear hwr hkt hk1 hkl
          go_wp2_with fail
          refine HC.out.mono ?_
          rintro e w2 ⟨rfl, hb2⟩
          have HB2 := Lib.hid hb2
          clear hb2 d0 d1 d2 d3 e0 e1 e2 e3
          cases hs : lessE y x
          · have hrf := HNo2.out hs
            subst hrf
            have hcz : decide (0 ≤ c) = true := by simpa using HCG.out.2 hs
            clear hs
            go_wp2_with fail
            go_ret
            exact ⟨rfl, (below_drew HBW.out).trans (HB2.out.mono HBW.out.size)⟩
          · have hcz : decide (0 ≤ c) = false := by
              rcases hd : decide (0 ≤ c) with _ | _
              · rfl
              · have := HCG.out.1 (by simpa using hd)
                rw [this] at hs
                cases hs
            have HS := Lib.hid hs
            clear hs
            go_wp2_with fail
            go_roundw
            case rel => exact ⟨k + 1, by omega, by go_num, (below_drew HBW.out).trans (HB2.out.mono HBW.out.size), HStep.out HO.out HS.out⟩
            case measure => simp [intOf]; omega
      · obtain rfl : k = 0 := by omega
        have HStep : Hid (oneE es[0] = true → ∀ j, (hj : j < 0 + 1) → (hl : j < es.length) → oneE es[j] = true ∧ (0 < j → lessE (es[j - 1]'(by omega)) es[j] = true)) := Lib.hid (fun g1 j hj hl => by
          obtain rfl : j = 0 := by omega
          exact ⟨g1, fun h => absurd h (by omega)⟩)
        generalize es[0] = x at *
        clear hV1 hb1
        rcases hways with ⟨ho, hg, hq, hqn⟩ | ⟨ho, hg | ⟨hg, hq, hqn⟩⟩
        · rw [hg] at d2
          have hrf := HNo.out (.inl ho)
          subst hrf
          clear ho hg
          go_wp2_with fail
          go_quiet (fail)
          go_wp2_with fail
          go_ret
          exact ⟨rfl, below_drewN HBW.out _⟩
        all_goals
          rw [hg] at d2
          have HO := Lib.hid ho
          clear ho hg
          go_wp2_with fail
          go_quiet (fail)
          go_wp2_with fail
          go_roundw
          case rel => exact ⟨0 + 1, by omega, by go_num, below_drewN HBW.out _, HStep.out HO.out⟩
          case measure => simp [intOf]; omega
    · have hk2 : k = es.length := by omega
      subst hk2
      have hrt : r = true := by
        rw [← HR.out, rightE_at]
        exact fun j hj => HTK.out j hj hj
      subst hrt
      go_wp2_with fail
      go_ret
      exact ⟨rfl, HBW.out⟩
end Go.Proofs.Yteclnnjijfbfoaa
