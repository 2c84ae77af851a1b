/-
  The walk over glacierlaw6.MergeSteps.
-/
import Derived.Test.YtdmjkejadaienaaMhD
import Derived.Test.YtdmjkejadaienaaMhE
namespace Go.Proofs.Ytdmjkejadaienaa
open Go.RowKit

theorem addL_len (m : List Ent) (y : Ent) : (addL m y).length ≤ m.length + 1 := by
  unfold addL
  split
  · omega
  · unfold putL
    split
    · simp
    · simp
      have := plcE_le y m
      omega
theorem twoL_len : ∀ (b a : List Ent), (twoL a b).length ≤ a.length + b.length
  | [], a => by simp [twoL]
  | y :: r, a => by
    have h1 := twoL_len r (addL a y)
    have h2 := addL_len a y
    have e : twoL a (y :: r) = twoL (addL a y) r := rfl
    rw [e, List.length_cons]
    omega
theorem mrgL_fit {ls : List (List Ent)} (hs : ∀ l ∈ ls, SrtE l) (hf : ∀ l ∈ ls, ∀ x ∈ l, FitE x) : ∀ x ∈ mrgL ls, FitE x := fun x hx => by
  obtain ⟨l, hl, hxl⟩ := inM_mem (((mrgL_is hs).mem x).1 hx)
  exact hf l hl x hxl
theorem Els.new {w : World} {us : List Value} {ls : List (List Ent)} (hl : us.length = ls.length) (hn : ls.length ≤ 1000) (h : ∀ (k : Nat) (l : List Ent) (u : Value), ls[k]? = some l → us[k]? = some u → En w (fun _ => True) u l) :
    Els (w.alloc (.cells us.toArray 23)) (fun _ => True) (.slice (some ⟨w.heap.size, 0, none⟩) ls.length ls.length) ls :=
  ⟨us, hl, Cl.new w _ ls.length us _ _ rfl (by omega) trivial, fun k l u h1 h2 => (h k l u h1 h2).below ((Below.refl _ _).alloc (Nat.le_refl _) _)⟩
theorem mg_ok (w : World) (v : Value) (ls : List (List Ent)) (h : Els w (fun _ => True) v ls) (hr : ∀ l ∈ ls, rightE l = true) (hf : ∀ l ∈ ls, ∀ x ∈ l, FitE x) (h3 : ls.length ≤ 3) (hM : ∀ l ∈ ls, l.length ≤ 3000) :
    Calls Try.prog 41 #[v] w fun r w' => ∃ p c, r = .returned (.tuple #[.slice p (mrgL ls).length c, .int .i64 0]) ∧ En w' (fun _ => True) (.slice p (mrgL ls).length c) (mrgL ls) ∧ Below w.heap.size w w' :=
  (mg_merge w _ v ls h hf (by omega) 3000 hM (by omega)).mono fun r w' ⟨hb, h⟩ => h.elim (fun ⟨_, u, h1, h2⟩ => by
    obtain ⟨p, c, rfl, _⟩ := h2.form
    exact ⟨p, c, h1, h2.mono fun _ _ _ => trivial, hb⟩) (fun ⟨⟨l, hl, h1⟩, _⟩ => by rw [hr l hl] at h1; cases h1)
theorem Els.two {w : World} {ua ub : Value} {a b : List Ent} (ha : En w (fun _ => True) ua a) (hb : En w (fun _ => True) ub b) : Els (w.alloc (.cells #[ua, ub] 23)) (fun _ => True) (.slice (some ⟨w.heap.size, 0, none⟩) 2 2) [a, b] :=
  Els.new (us := [ua, ub]) rfl (by simp) fun k l u h1 h2 => by
    match k with
    | 0 => obtain rfl := Option.some.inj h1; obtain rfl := Option.some.inj h2; exact ha
    | 1 => obtain rfl := Option.some.inj h1; obtain rfl := Option.some.inj h2; exact hb
    | k + 2 => simp at h1
theorem Els.three {w : World} {ua ub uc : Value} {a b c : List Ent} (ha : En w (fun _ => True) ua a) (hb : En w (fun _ => True) ub b) (hc : En w (fun _ => True) uc c) : Els (w.alloc (.cells #[ua, ub, uc] 23)) (fun _ => True) (.slice (some ⟨w.heap.size, 0, none⟩) 3 3) [a, b, c] :=
  Els.new (us := [ua, ub, uc]) rfl (by simp) fun k l u h1 h2 => by
    match k with
    | 0 => obtain rfl := Option.some.inj h1; obtain rfl := Option.some.inj h2; exact ha
    | 1 => obtain rfl := Option.some.inj h1; obtain rfl := Option.some.inj h2; exact hb
    | 2 => obtain rfl := Option.some.inj h1; obtain rfl := Option.some.inj h2; exact hc
    | k + 3 => simp at h1

set_option maxRecDepth 100000 in
set_option maxHeartbeats 8000000 in
theorem steps_any (w : World) (v0 v1 v2 : Value) (a b c : List Ent) (h0 : En w (fun k => k < w.heap.size) v0 a) (h1 : En w (fun k => k < w.heap.size) v1 b) (h2 : En w (fun k => k < w.heap.size) v2 c)
    (fa : ∀ x ∈ a, FitE x) (fb : ∀ x ∈ b, FitE x) (fc : ∀ x ∈ c, FitE x) (la : a.length ≤ 1048576) (lb : b.length ≤ 1048576) (lc : c.length ≤ 1048576) :
    Calls Try.prog 13 #[v0, v1, v2] w fun r W' => r = .returned (.bool true) ∧ Below w.heap.size w W' := by
  obtain ⟨p0, c0, rfl, _, _, _, _⟩ := h0.form
  obtain ⟨p1, c1, rfl, _, _, _, _⟩ := h1.form
  obtain ⟨p2, c2, rfl, _, _, _, _⟩ := h2.form
  have HE : Hid (∀ V, Below w.heap.size w V → En V (fun _ => True) (.slice p0 a.length c0) a ∧ En V (fun _ => True) (.slice p1 b.length c1) b ∧ En V (fun _ => True) (.slice p2 c.length c2) c) := Lib.hid (fun V hV => ⟨(h0.below hV).mono fun _ _ _ => trivial, (h1.below hV).mono fun _ _ _ => trivial, (h2.below hV).mono fun _ _ _ => trivial⟩)
  have HKn := Lib.hid (mg_known w)
  have HF : Hid ((∀ l ∈ [a, b, c], ∀ x ∈ l, FitE x) ∧ ∀ l ∈ [a, b, c], l.length ≤ 1048576) := Lib.hid ⟨fun l hl => by simp at hl; rcases hl with rfl | rfl | rfl <;> assumption, fun l hl => by simp at hl; rcases hl with rfl | rfl | rfl <;> assumption⟩
  obtain ⟨fw, hfw⟩ : ∃ fw, fewL [a, b, c] = fw := ⟨_, rfl⟩
  have HFw := Lib.hid hfw
  clear h0 h1 h2 fa fb fc la lb lc hfw
  go_enter Try.func13, Try.ntmps13
  go_wp2_with fail
  refine HKn.out.mono ?_
  rintro r w1 ⟨rfl, hb1⟩
  obtain ⟨W1, hW1⟩ : ∃ W1, w1.alloc (.cells #[.slice p0 a.length c0, .slice p1 b.length c1, .slice p2 c.length c2] 23) = W1 := ⟨_, rfl⟩
  have hE1 := HE.out w1 hb1
  have hels : Els W1 (fun _ => True) (.slice (some ⟨w1.heap.size, 0, none⟩) 3 3) [a, b, c] := by rw [← hW1]; exact Els.three hE1.1 hE1.2.1 hE1.2.2
  have hfew := l6_few W1 _ _ _ hels HF.out.1 HF.out.2
  rw [HFw.out] at hfew
  have HFew := Lib.hid hfew
  have HB1 : Hid (Below w.heap.size w W1) := Lib.hid (by rw [← hW1]; exact hb1.alloc hb1.size _)
  clear hb1 hfew HKn hE1 hels
  cases fw
  · go_wp2_with fail
    refine HFew.out.mono ?_
    rintro r w2' ⟨rfl, nq, rfl⟩
    have HB2 : Hid (Below w.heap.size w (W1.drewN nq)) := Lib.hid (below_drewN HB1.out _)
    go_wp2_with fail
    go_ret
    exact ⟨rfl, HB2.out⟩
  · obtain ⟨_, h1000, _⟩ := fewL_of HFw.out
    have hla := h1000 a (by simp)
    have hlb := h1000 b (by simp)
    have hlc := h1000 c (by simp)
    have HRt : Hid (∀ V, Below w.heap.size w V → (Calls Try.prog 32 #[.slice p0 a.length c0] V fun r w' => r = .returned (.bool (rightE a)) ∧ Below V.heap.size V w') ∧ (Calls Try.prog 32 #[.slice p1 b.length c1] V fun r w' => r = .returned (.bool (rightE b)) ∧ Below V.heap.size V w') ∧
        (Calls Try.prog 32 #[.slice p2 c.length c2] V fun r w' => r = .returned (.bool (rightE c)) ∧ Below V.heap.size V w')) := Lib.hid (fun V hV => ⟨r6_right V _ _ a (HE.out V hV).1, r6_right V _ _ b (HE.out V hV).2.1, r6_right V _ _ c (HE.out V hV).2.2⟩)
    go_wp2_with fail
    refine HFew.out.mono ?_
    rintro r w2' ⟨rfl, nq, rfl⟩
    obtain ⟨w2, hw2⟩ : ∃ w2, W1.drewN nq = w2 := ⟨_, rfl⟩
    have HB2 : Hid (Below w.heap.size w w2) := Lib.hid (by rw [← hw2]; exact below_drewN HB1.out _)
    rw [hw2]
    clear hw2 HFew HB1 hW1
    rcases hra : rightE a with _ | _
    · have HRa := Lib.hid (HRt.out w2 HB2.out).1
      rw [hra] at HRa
      go_wp2_with fail
      refine HRa.out.mono ?_
      rintro r w3 ⟨rfl, hb3⟩
      have HB3 := Lib.hid (HB2.out.trans (hb3.mono HB2.out.size))
      go_wp2_with fail
      go_ret
      exact ⟨rfl, HB3.out⟩
    · have HRa := Lib.hid (HRt.out w2 HB2.out).1
      rw [hra] at HRa
      go_wp2_with fail
      refine HRa.out.mono ?_
      rintro r w3 ⟨rfl, hb3⟩
      have HB3 := Lib.hid (HB2.out.trans (hb3.mono HB2.out.size))
      clear hb3
      rcases hrb : rightE b with _ | _
      · have HRb := Lib.hid (HRt.out w3 HB3.out).2.1
        rw [hrb] at HRb
        go_wp2_with fail
        refine HRb.out.mono ?_
        rintro r w4 ⟨rfl, hb4⟩
        have HB4 := Lib.hid (HB3.out.trans (hb4.mono HB3.out.size))
        go_wp2_with fail
        go_ret
        exact ⟨rfl, HB4.out⟩
      · have HRb := Lib.hid (HRt.out w3 HB3.out).2.1
        rw [hrb] at HRb
        go_wp2_with fail
        refine HRb.out.mono ?_
        rintro r w4 ⟨rfl, hb4⟩
        have HB4 := Lib.hid (HB3.out.trans (hb4.mono HB3.out.size))
        clear hb4
        rcases hrc : rightE c with _ | _
        · have HRc := Lib.hid (HRt.out w4 HB4.out).2.2
          rw [hrc] at HRc
          go_wp2_with fail
          refine HRc.out.mono ?_
          rintro r w5 ⟨rfl, hb5⟩
          have HB5 := Lib.hid (HB4.out.trans (hb5.mono HB4.out.size))
          go_wp2_with fail
          go_ret
          exact ⟨rfl, HB5.out⟩
        · have HRc := Lib.hid (HRt.out w4 HB4.out).2.2
          rw [hrc] at HRc
          have sa := (rightE_iff.1 hra).2
          have sb := (rightE_iff.1 hrb).2
          have sc := (rightE_iff.1 hrc).2
          have rab : ∀ l ∈ [a, b], rightE l = true := fun l hl => by simp at hl; rcases hl with rfl | rfl <;> assumption
          have rbc : ∀ l ∈ [b, c], rightE l = true := fun l hl => by simp at hl; rcases hl with rfl | rfl <;> assumption
          have rabc : ∀ l ∈ [a, b, c], rightE l = true := fun l hl => by simp at hl; rcases hl with rfl | rfl | rfl <;> assumption
          have fa := HF.out.1 a (by simp)
          have fb := HF.out.1 b (by simp)
          have fc := HF.out.1 c (by simp)
          have fab : ∀ l ∈ [a, b], ∀ x ∈ l, FitE x := fun l hl => by simp at hl; rcases hl with rfl | rfl <;> assumption
          have fbc : ∀ l ∈ [b, c], ∀ x ∈ l, FitE x := fun l hl => by simp at hl; rcases hl with rfl | rfl <;> assumption
          have mr := mrgL_right rab
          have nr := mrgL_right rbc
          have mf := mrgL_fit (fun l hl => (rightE_iff.1 (rab l hl)).2) fab
          have nf := mrgL_fit (fun l hl => (rightE_iff.1 (rbc l hl)).2) fbc
          have ml : (mrgL [a, b]).length ≤ 2000 := by rw [mrgL_two sa]; have := twoL_len b a; omega
          have nl : (mrgL [b, c]).length ≤ 2000 := by rw [mrgL_two sb]; have := twoL_len c b; omega
          have e1 := steps_left (c := c) sa sb
          have e2 := steps_right sa sb sc
          have HSa : Hid (∀ V F G v u l, En V F v l → En V G u l → Calls Try.prog 27 #[v, u] V fun r w' => r = .returned (.bool true) ∧ Below V.heap.size V w') := Lib.hid (fun V F G v u l h1 h2 => by
            have h := l5_sameRows V F G v u l l h1 h2
            rw [sameL_iff.2 rfl] at h
            exact h)
          have K3 : Hid (∀ V v, Els V (fun _ => True) v [a, b, c] → _) := Lib.hid (fun V v hE => mg_ok V v [a, b, c] hE rabc HF.out.1 (by simp) (fun l hl => by simp at hl; rcases hl with rfl | rfl | rfl <;> omega))
          have Kab : Hid (∀ V v, Els V (fun _ => True) v [a, b] → _) := Lib.hid (fun V v hE => mg_ok V v [a, b] hE rab fab (by simp) (fun l hl => by simp at hl; rcases hl with rfl | rfl <;> omega))
          have Kbc : Hid (∀ V v, Els V (fun _ => True) v [b, c] → _) := Lib.hid (fun V v hE => mg_ok V v [b, c] hE rbc fbc (by simp) (fun l hl => by simp at hl; rcases hl with rfl | rfl <;> omega))
          generalize mrgL [a, b] = m at *
          generalize mrgL [b, c] = n at *
          have rmc : ∀ l ∈ [m, c], rightE l = true := fun l hl => by simp at hl; rcases hl with rfl | rfl <;> assumption
          have ran : ∀ l ∈ [a, n], rightE l = true := fun l hl => by simp at hl; rcases hl with rfl | rfl <;> assumption
          have fmc : ∀ l ∈ [m, c], ∀ x ∈ l, FitE x := fun l hl => by simp at hl; rcases hl with rfl | rfl <;> assumption
          have fan : ∀ l ∈ [a, n], ∀ x ∈ l, FitE x := fun l hl => by simp at hl; rcases hl with rfl | rfl <;> assumption
          have Kmc : Hid (∀ V v, Els V (fun _ => True) v [m, c] → _) := Lib.hid (fun V v hE => mg_ok V v [m, c] hE rmc fmc (by simp) (fun l hl => by simp at hl; rcases hl with rfl | rfl <;> omega))
          have Kan : Hid (∀ V v, Els V (fun _ => True) v [a, n] → _) := Lib.hid (fun V v hE => mg_ok V v [a, n] hE ran fan (by simp) (fun l hl => by simp at hl; rcases hl with rfl | rfl <;> omega))
          rw [e1] at Kmc
          rw [e2] at Kan
          generalize mrgL [a, b, c] = t at *
          clear sa sb sc rab rbc rabc fa fb fc fab fbc mr nr mf nf e1 e2 rmc ran fmc fan hra hrb hrc HRt HF HFw h1000 hla hlb hlc ml nl HRa HRb
          go_wp2_with fail
          refine HRc.out.mono ?_
          rintro r w5 ⟨rfl, hb5⟩
          have HB5 := Lib.hid (HB4.out.trans (hb5.mono HB4.out.size))
          clear hb5
          go_wp2_with fail
          refine (K3.out _ _ (Els.three (HE.out w5 HB5.out).1 (HE.out w5 HB5.out).2.1 (HE.out w5 HB5.out).2.2)).mono ?_
          rintro r w6 ⟨p6, c6, rfl, hE6, hb6⟩
          have HB6 := Lib.hid ((HB5.out.alloc HB5.out.size _).trans (hb6.mono (HB5.out.alloc HB5.out.size _).size))
          have HE6 := Lib.hid hE6
          clear hE6 hb6
          go_wp2_with fail
          refine (Kab.out _ _ (Els.two (HE.out w6 HB6.out).1 (HE.out w6 HB6.out).2.1)).mono ?_
          rintro r w7 ⟨p7, c7, rfl, hE7, hb7⟩
          have hs6 : Below w6.heap.size w6 w7 := ((Below.refl _ w6).alloc (Nat.le_refl _) _).trans (hb7.mono (by simp))
          have HB7 := Lib.hid (HB6.out.trans (hs6.mono HB6.out.size))
          have HE67 := Lib.hid (HE6.out.below hs6)
          clear hb7 hs6
          go_wp2_with fail
          refine (Kmc.out _ _ (Els.two hE7 (HE.out w7 HB7.out).2.2)).mono ?_
          rintro r w8 ⟨p8, c8, rfl, hE8, hb8⟩
          have hs7 : Below w7.heap.size w7 w8 := ((Below.refl _ w7).alloc (Nat.le_refl _) _).trans (hb8.mono (by simp))
          have HB8 := Lib.hid (HB7.out.trans (hs7.mono HB7.out.size))
          have HE68 := Lib.hid (HE67.out.below hs7)
          have HE8 := Lib.hid hE8
          clear hb8 hs7 hE7 hE8
          go_wp2_with fail
          refine (Kbc.out _ _ (Els.two (HE.out w8 HB8.out).2.1 (HE.out w8 HB8.out).2.2)).mono ?_
          rintro r w9 ⟨p9, c9, rfl, hE9, hb9⟩
          have hs8 : Below w8.heap.size w8 w9 := ((Below.refl _ w8).alloc (Nat.le_refl _) _).trans (hb9.mono (by simp))
          have HB9 := Lib.hid (HB8.out.trans (hs8.mono HB8.out.size))
          have HE69 := Lib.hid (And.intro (HE68.out.below hs8) (HE8.out.below hs8))
          clear hb9 hs8
          go_wp2_with fail
          refine (Kan.out _ _ (Els.two (HE.out w9 HB9.out).1 hE9)).mono ?_
          rintro r wx ⟨px, cx, rfl, hEx, hbx⟩
          have hs9 : Below w9.heap.size w9 wx := ((Below.refl _ w9).alloc (Nat.le_refl _) _).trans (hbx.mono (by simp))
          have HBx := Lib.hid (HB9.out.trans (hs9.mono HB9.out.size))
          have HE6x := Lib.hid (And.intro (HE69.out.1.below hs9) (And.intro (HE69.out.2.below hs9) hEx))
          have HS1 := Lib.hid (HSa.out wx _ _ _ _ _ HE6x.out.1 HE6x.out.2.1)
          clear hbx hs9 hE9 hEx
          go_wp2_with fail
          refine HS1.out.mono ?_
          rintro r wy ⟨rfl, hby⟩
          have HBy := Lib.hid (HBx.out.trans (hby.mono HBx.out.size))
          have HS2 := Lib.hid (HSa.out wy _ _ _ _ _ (HE6x.out.1.below hby) (HE6x.out.2.2.below hby))
          clear hby
          go_wp2_with fail
          refine HS2.out.mono ?_
          rintro r wz ⟨rfl, hbz⟩
          have HBz := Lib.hid (HBy.out.trans (hbz.mono HBy.out.size))
          clear hbz
          go_wp2_with fail
          go_ret
          exact ⟨rfl, HBz.out⟩
end Go.Proofs.Ytdmjkejadaienaa
