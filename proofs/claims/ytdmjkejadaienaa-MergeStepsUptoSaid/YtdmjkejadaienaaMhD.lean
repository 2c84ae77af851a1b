/-
  The walk over glacierlaw6.MergeLists.
-/
import Derived.Test.YtdmjkejadaienaaMhC
namespace Go.Proofs.Ytdmjkejadaienaa
open Go.RowKit

theorem fewL_of {ls : List (List Ent)} (h : fewL ls = true) : ls.length ≤ 30 ∧ (∀ l ∈ ls, l.length ≤ 1000) ∧ ls.flatten.length ≤ 3000 := by
  unfold fewL at h
  simp only [Bool.and_eq_true, decide_eq_true_eq] at h
  refine ⟨h.1, fun l hl => ?_, h.2.2⟩
  have := few_len (List.all_eq_true.1 h.2.1 l hl)
  omega

set_option maxRecDepth 100000 in
set_option maxHeartbeats 4000000 in
theorem lists_any (w : World) (v0 : Value) (ls : List (List Ent)) (h0 : Els w (fun k => k < w.heap.size) v0 ls) (hf : ∀ l ∈ ls, ∀ x ∈ l, FitE x) (hl : ∀ l ∈ ls, l.length ≤ 1048576) :
    Calls Try.prog 8 #[v0] w fun r W' => r = .returned (.bool true) ∧ Below w.heap.size w W' := by
  obtain ⟨p0, c0, rfl, _, _, _, _⟩ := h0.form
  have H0 := Lib.hid h0
  have HF := Lib.hid hf
  have HKn := Lib.hid (mg_known w)
  obtain ⟨fw, hfw⟩ : ∃ fw, fewL ls = fw := ⟨_, rfl⟩
  have HFw := Lib.hid hfw
  have HLl := Lib.hid hl
  clear h0 hf hfw hl
  go_enter Try.func8, Try.ntmps8
  go_wp2_with fail
  refine HKn.out.mono ?_
  rintro r w1 ⟨rfl, hb1⟩
  have hfew := l6_few w1 _ _ ls (H0.out.below hb1) HF.out HLl.out
  rw [HFw.out] at hfew
  have HFew := Lib.hid hfew
  have HB1 := Lib.hid hb1
  clear hb1 hfew HKn
  go_wp2_with fail
  refine HFew.out.mono ?_
  rintro r w2' ⟨rfl, nq, rfl⟩
  obtain ⟨w2, hw2⟩ : ∃ w2, w1.drewN nq = w2 := ⟨_, rfl⟩
  have HB2 : Hid (Below w.heap.size w w2) := Lib.hid (by rw [← hw2]; exact below_drewN HB1.out _)
  rw [hw2]
  clear hw2 HFew HB1
  cases fw
  · go_wp2_with fail
    go_ret
    exact ⟨rfl, HB2.out⟩
  · obtain ⟨h30, h1000, h3000⟩ := fewL_of HFw.out
    have hM := mg_merge w2 _ _ ls (H0.out.below HB2.out) HF.out (by omega) 1000 h1000 (by omega)
    have HR : Hid (∀ V, Below w.heap.size w V → _) := Lib.hid (fun V hV => r6_merge V _ _ ls (H0.out.below hV) (by omega))
    have HSa : Hid (∀ V F G v u l, En V F v l → En V G u l → Calls Try.prog 27 #[v, u] V fun r w' => r = .returned (.bool true) ∧ Below V.heap.size V w') := Lib.hid (fun V F G v u l h1 h2 => by
      have h := l5_sameRows V F G v u l l h1 h2
      rw [sameL_iff.2 rfl] at h
      exact h)
    by_cases hall : ∀ l ∈ ls, rightE l = true
    · have hM2 : Calls Try.prog 41 #[.slice p0 ls.length c0] w2 fun r w' => Below w2.heap.size w2 w' ∧ ∃ u, r = .returned (.tuple #[u, .int .i64 0]) ∧ En w' (fun k => w2.heap.size ≤ k) u (mrgL ls) := hM.mono fun r w' ⟨hb, h⟩ => ⟨hb, h.elim And.right (fun ⟨⟨l, hl, h1⟩, _⟩ => by rw [hall l hl] at h1; cases h1)⟩
      have HR2 : Hid (∀ V, Below w.heap.size w V → Calls Try.prog 42 #[.slice p0 ls.length c0] V fun r w' => Below V.heap.size V w' ∧ ∃ u, r = .returned (.tuple #[u, .int .i64 0]) ∧ En w' (fun _ => True) u (mrgL ls)) := Lib.hid (fun V hV => (HR.out V hV).mono fun r w' ⟨hb, h⟩ => ⟨hb, h.elim And.right (fun ⟨⟨l, hl, h1⟩, _⟩ => by rw [hall l hl] at h1; cases h1)⟩)
      have HM := Lib.hid hM2
      clear hM hM2 hall h30 h1000 h3000 HR
      generalize mrgL ls = m at *
      go_wp2_with fail
      refine HM.out.mono ?_
      rintro r w3 ⟨hb3, ua, rfl, hE3⟩
      obtain ⟨pa, ca, rfl, _, _, _, _⟩ := hE3.form
      have HE3 := Lib.hid hE3
      have HB3 := Lib.hid (HB2.out.trans (hb3.mono HB2.out.size))
      clear hb3 hE3
      go_wp2_with fail
      refine (HR2.out _ HB3.out).mono ?_
      rintro r w4 ⟨hb4, ub, rfl, hE4⟩
      obtain ⟨pb, cb, rfl, _, _, _, _⟩ := hE4.form
      have HSm := Lib.hid (HSa.out w4 _ _ _ _ _ (HE3.out.below hb4) hE4)
      have HB4 := Lib.hid (HB3.out.trans (hb4.mono HB3.out.size))
      clear hb4 hE4 HE3
      go_wp2_with fail
      refine HSm.out.mono ?_
      rintro r w5 ⟨rfl, hb5⟩
      have HB5 := Lib.hid (HB4.out.trans (hb5.mono HB4.out.size))
      clear hb5
      go_wp2_with fail
      go_ret
      exact ⟨rfl, HB5.out⟩
    · have hM2 : Calls Try.prog 41 #[.slice p0 ls.length c0] w2 fun r w' => Below w2.heap.size w2 w' ∧ r = .returned (.tuple #[.slice none 0 0, .int .i64 15]) := hM.mono fun r w' ⟨hb, h⟩ => ⟨hb, h.elim (fun h1 => absurd h1.1 hall) And.right⟩
      have HR2 : Hid (∀ V, Below w.heap.size w V → Calls Try.prog 42 #[.slice p0 ls.length c0] V fun r w' => Below V.heap.size V w' ∧ r = .returned (.tuple #[.slice none 0 0, .int .i64 15])) := Lib.hid (fun V hV => (HR.out V hV).mono fun r w' ⟨hb, h⟩ => ⟨hb, h.elim (fun h1 => absurd h1.1 hall) And.right⟩)
      have HM := Lib.hid hM2
      clear hM hM2 hall h30 h1000 h3000 HR
      go_wp2_with fail
      refine HM.out.mono ?_
      rintro r w3 ⟨hb3, rfl⟩
      have HB3 := Lib.hid (HB2.out.trans (hb3.mono HB2.out.size))
      clear hb3
      go_wp2_with fail
      refine (HR2.out _ HB3.out).mono ?_
      rintro r w4 ⟨hb4, rfl⟩
      have HSm := Lib.hid (HSa.out w4 (fun _ => True) (fun _ => True) _ _ [] (En.nil _ _) (En.nil _ _))
      have HB4 := Lib.hid (HB3.out.trans (hb4.mono HB3.out.size))
      clear hb4
      go_wp2_with fail
      refine HSm.out.mono ?_
      rintro r w5 ⟨rfl, hb5⟩
      have HB5 := Lib.hid (HB4.out.trans (hb5.mono HB4.out.size))
      clear hb5
      go_wp2_with fail
      go_ret
      exact ⟨rfl, HB5.out⟩
end Go.Proofs.Ytdmjkejadaienaa
