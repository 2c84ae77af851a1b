/-
  The walks over glacierlaw6.MergeSees and MergePrunes.
-/
import Derived.Test.YtdmjkejadaienaaMgI
import Derived.Test.YtdmjkejadaienaaMgJ
import Derived.Test.YtdmjkejadaienaaMgK
namespace Go.Proofs.Ytdmjkejadaienaa
open Go.RowKit

theorem few_len {es : List Ent} {most : Int} (h : fewE es most = true) : (es.length : Int) ≤ most := by
  unfold fewE at h
  simp only [Bool.and_eq_true, decide_eq_true_eq] at h
  exact h.1

set_option maxRecDepth 100000 in
set_option maxHeartbeats 4000000 in
theorem sees6_any (w : World) (v0 : Value) (es : List Ent) (h0 : En w (fun k => k < w.heap.size) v0 es) (hf : ∀ x ∈ es, FitE x) (hl : es.length ≤ 1048576) (up : Nat) (bot : Bool) :
    Calls Try.prog 9 #[v0, .int .u64 (up : Int), .bool bot] w fun r W' => r = .returned (.bool true) ∧ Below w.heap.size w W' := by
  obtain ⟨p0, c0, rfl, _, _, _, _⟩ := h0.form
  have H0 := Lib.hid h0
  have HF := Lib.hid hf
  have HKn := Lib.hid (mg_known w)
  obtain ⟨fw, hfw⟩ : ∃ fw, fewE es 1000 = fw := ⟨_, rfl⟩
  have HFw := Lib.hid hfw
  clear h0 hf hfw
  go_enter Try.func9, Try.ntmps9
  go_wp2_with fail
  refine HKn.out.mono ?_
  rintro r w1 ⟨rfl, hb1⟩
  have hfew := l5_few w1 _ _ es (H0.out.below hb1) HF.out hl 1000
  rw [HFw.out] at hfew
  have HFew := Lib.hid hfew
  have HB1 := Lib.hid hb1
  clear hb1 hfew HKn
  go_wp2_with fail
  refine HFew.out.mono ?_
  rintro r w2' ⟨rfl, nq, rfl⟩
  obtain ⟨w2, hw2⟩ : ∃ w2, w1.drewN nq = w2 := ⟨_, rfl⟩
  have HB2 : Hid (Below w.heap.size w w2) := Lib.hid (by rw [← hw2]; exact below_drewN HB1.out _)
  rw [hw2]
  clear hw2 HFew HB1
  have HE : Hid (∀ V, Below w.heap.size w V → En V (fun k => k < w.heap.size) (.slice p0 es.length c0) es) := Lib.hid (fun V hV => H0.out.below hV)
  cases fw
  · go_wp2_with fail
    go_ret
    exact ⟨rfl, HB2.out⟩
  · have hle : es.length ≤ 1000 := by have := few_len HFw.out; omega
    rcases hR : rightE es with _ | _
    · have HS1 := Lib.hid (mg_seen_no w2 _ _ es (HE.out w2 HB2.out) hR up)
      have HS2 : Hid (∀ V, Below w.heap.size w V → Calls Try.prog 36 #[.slice p0 es.length c0, .int .u64 (up : Int)] V fun r w' => r = .returned (.tuple #[.slice none 0 0, .int .i64 15]) ∧ Below V.heap.size V w') := Lib.hid (fun V hV => r6_seen_no V _ _ es (HE.out V hV) hR up)
      have HP1 : Hid (∀ V, Below w.heap.size w V → Calls Try.prog 44 #[.slice p0 es.length c0, .int .u64 (up : Int), .bool bot] V fun r w' => r = .returned (.tuple #[.slice none 0 0, .int .i64 15]) ∧ Below V.heap.size V w') := Lib.hid (fun V hV => mg_prune_no V _ _ es (HE.out V hV) hR up bot)
      have HP2 : Hid (∀ V, Below w.heap.size w V → Calls Try.prog 45 #[.slice p0 es.length c0, .int .u64 (up : Int), .bool bot] V fun r w' => r = .returned (.tuple #[.slice none 0 0, .int .i64 15]) ∧ Below V.heap.size V w') := Lib.hid (fun V hV => r6_prune_no V _ _ es (HE.out V hV) hR up bot)
      have HSa : Hid (∀ V, Calls Try.prog 27 #[.slice none 0 0, .slice none 0 0] V fun r w' => r = .returned (.bool true) ∧ Below V.heap.size V w') := Lib.hid (fun V => l5_sameRows V (fun _ => True) (fun _ => True) _ _ [] [] (En.nil _ _) (En.nil _ _))
      clear hR
      go_wp2_with fail
      refine HS1.out.mono ?_
      rintro r w3 ⟨rfl, hb3⟩
      have HB3 := Lib.hid (HB2.out.trans (hb3.mono HB2.out.size))
      clear hb3
      go_wp2_with fail
      refine (HS2.out _ HB3.out).mono ?_
      rintro r w4 ⟨rfl, hb4⟩
      have HB4 := Lib.hid (HB3.out.trans (hb4.mono HB3.out.size))
      clear hb4
      go_wp2_with fail
      refine (HSa.out _).mono ?_
      rintro r w5 ⟨rfl, hb5⟩
      have HB5 := Lib.hid (HB4.out.trans (hb5.mono HB4.out.size))
      clear hb5
      go_wp2_with fail
      refine (HP1.out _ HB5.out).mono ?_
      rintro r w6 ⟨rfl, hb6⟩
      have HB6 := Lib.hid (HB5.out.trans (hb6.mono HB5.out.size))
      clear hb6
      go_wp2_with fail
      refine (HP2.out _ HB6.out).mono ?_
      rintro r w7 ⟨rfl, hb7⟩
      have HB7 := Lib.hid (HB6.out.trans (hb7.mono HB6.out.size))
      clear hb7
      go_wp2_with fail
      refine (HSa.out _).mono ?_
      rintro r w8 ⟨rfl, hb8⟩
      have HB8 := Lib.hid (HB7.out.trans (hb8.mono HB7.out.size))
      clear hb8
      go_wp2_with fail
      go_ret
      exact ⟨rfl, HB8.out⟩
    · have HS1 := Lib.hid (mg_seen w2 _ _ es (HE.out w2 HB2.out) hR HF.out hl up)
      have HS2 : Hid (∀ V, Below w.heap.size w V → Calls Try.prog 36 #[.slice p0 es.length c0, .int .u64 (up : Int)] V fun r w' => ∃ u, r = .returned (.tuple #[u, .int .i64 0]) ∧ En w' (fun k => k < w.heap.size ∨ V.heap.size ≤ k) u (seenE es up) ∧ Below V.heap.size V w') := Lib.hid (fun V hV => r6_seen V _ _ es (HE.out V hV) hR hl up)
      have HP1 : Hid (∀ V, Below w.heap.size w V → Calls Try.prog 44 #[.slice p0 es.length c0, .int .u64 (up : Int), .bool bot] V fun r w' => ∃ u, r = .returned (.tuple #[u, .int .i64 0]) ∧ En w' (fun k => V.heap.size ≤ k) u (prnE es up bot) ∧ Below V.heap.size V w') := Lib.hid (fun V hV => mg_prune V _ _ es (HE.out V hV) hR HF.out (by omega) up bot)
      have HP2 : Hid (∀ V, Below w.heap.size w V → Calls Try.prog 45 #[.slice p0 es.length c0, .int .u64 (up : Int), .bool bot] V fun r w' => ∃ u, r = .returned (.tuple #[u, .int .i64 0]) ∧ En w' (fun k => k < w.heap.size ∨ V.heap.size ≤ k) u (prnE es up bot) ∧ Below V.heap.size V w') := Lib.hid (fun V hV => r6_prune V _ _ es (HE.out V hV) hR hl up bot)
      have HSa : Hid (∀ V F G v u l, En V F v l → En V G u l → Calls Try.prog 27 #[v, u] V fun r w' => r = .returned (.bool true) ∧ Below V.heap.size V w') := Lib.hid (fun V F G v u l h1 h2 => by
        have h := l5_sameRows V F G v u l l h1 h2
        rw [sameL_iff.2 rfl] at h
        exact h)
      clear hR
      go_wp2_with fail
      refine HS1.out.mono ?_
      rintro r w3 ⟨ua, rfl, ha, hb3⟩
      obtain ⟨pa, ca, rfl, _, _, _, _⟩ := ha.form
      have HA := Lib.hid ha
      have HB3 := Lib.hid (HB2.out.trans (hb3.mono HB2.out.size))
      clear hb3 ha
      go_wp2_with fail
      refine (HS2.out _ HB3.out).mono ?_
      rintro r w4 ⟨ub, rfl, hb, hb4⟩
      obtain ⟨pb, cb, rfl, _, _, _, _⟩ := hb.form
      have HSm := Lib.hid (HSa.out w4 _ _ _ _ _ (HA.out.below hb4) hb)
      have HB4 := Lib.hid (HB3.out.trans (hb4.mono HB3.out.size))
      clear hb4 hb HA
      go_wp2_with fail
      refine HSm.out.mono ?_
      rintro r w5 ⟨rfl, hb5⟩
      have HB5 := Lib.hid (HB4.out.trans (hb5.mono HB4.out.size))
      clear hb5 HSm
      go_wp2_with fail
      refine (HP1.out _ HB5.out).mono ?_
      rintro r w6 ⟨uc, rfl, hc, hb6⟩
      obtain ⟨pc, cc, rfl, _, _, _, _⟩ := hc.form
      have HC := Lib.hid hc
      have HB6 := Lib.hid (HB5.out.trans (hb6.mono HB5.out.size))
      clear hb6 hc
      go_wp2_with fail
      refine (HP2.out _ HB6.out).mono ?_
      rintro r w7 ⟨ud, rfl, hd, hb7⟩
      obtain ⟨pd, cd, rfl, _, _, _, _⟩ := hd.form
      have HSm := Lib.hid (HSa.out w7 _ _ _ _ _ (HC.out.below hb7) hd)
      have HB7 := Lib.hid (HB6.out.trans (hb7.mono HB6.out.size))
      clear hb7 hd HC
      go_wp2_with fail
      refine HSm.out.mono ?_
      rintro r w8 ⟨rfl, hb8⟩
      have HB8 := Lib.hid (HB7.out.trans (hb8.mono HB7.out.size))
      clear hb8
      go_wp2_with fail
      go_ret
      exact ⟨rfl, HB8.out⟩

set_option maxRecDepth 100000 in
set_option maxHeartbeats 4000000 in
theorem prunes_any (w : World) (v0 : Value) (es : List Ent) (h0 : En w (fun k => k < w.heap.size) v0 es) (hf : ∀ x ∈ es, FitE x) (hl : es.length ≤ 1048576) (keep more : Nat) (hk : keep < 18446744073709551616) (hm : more < 18446744073709551616) (bot : Bool) :
    Calls Try.prog 11 #[v0, .int .u64 (keep : Int), .int .u64 (more : Int), .bool bot] w fun r W' => r = .returned (.bool true) ∧ Below w.heap.size w W' := by
  obtain ⟨p0, c0, rfl, _, _, _, _⟩ := h0.form
  have H0 := Lib.hid h0
  have HF := Lib.hid hf
  have HKn := Lib.hid (mg_known w)
  obtain ⟨fw, hfw⟩ : ∃ fw, fewE es 1000 = fw := ⟨_, rfl⟩
  have HFw := Lib.hid hfw
  have HKm := Lib.hid (And.intro hk hm)
  clear h0 hf hfw hk hm
  go_enter Try.func11, Try.ntmps11
  go_wp2_with fail
  refine HKn.out.mono ?_
  rintro r w1 ⟨rfl, hb1⟩
  have hfew := l5_few w1 _ _ es (H0.out.below hb1) HF.out hl 1000
  rw [HFw.out] at hfew
  have HFew := Lib.hid hfew
  have HB1 := Lib.hid hb1
  clear hb1 hfew HKn
  go_wp2_with fail
  refine HFew.out.mono ?_
  rintro r w2' ⟨rfl, nq, rfl⟩
  obtain ⟨w2, hw2⟩ : ∃ w2, w1.drewN nq = w2 := ⟨_, rfl⟩
  have HB2 : Hid (Below w.heap.size w w2) := Lib.hid (by rw [← hw2]; exact below_drewN HB1.out _)
  rw [hw2]
  clear hw2 HFew HB1
  have HE : Hid (∀ V, Below w.heap.size w V → En V (fun k => k < w.heap.size) (.slice p0 es.length c0) es) := Lib.hid (fun V hV => H0.out.below hV)
  cases fw
  · go_wp2_with fail
    go_ret
    exact ⟨rfl, HB2.out⟩
  · have hle : es.length ≤ 1000 := by have := few_len HFw.out; omega
    rcases hR : rightE es with _ | _
    · have HP1 := Lib.hid (mg_prune_no w2 _ _ es (HE.out w2 HB2.out) hR keep bot)
      have HRt : Hid (∀ V, Below w.heap.size w V → Calls Try.prog 39 #[.slice p0 es.length c0] V fun r w' => r = .returned (.bool false) ∧ Below V.heap.size V w') := Lib.hid (fun V hV => by
        have h := mg_right V _ _ es (HE.out V hV)
        rw [hR] at h
        exact h)
      clear hR
      go_wp2_with fail
      refine HP1.out.mono ?_
      rintro r w3 ⟨rfl, hb3⟩
      have HB3 := Lib.hid (HB2.out.trans (hb3.mono HB2.out.size))
      clear hb3
      go_wp2_with fail
      refine (HRt.out _ HB3.out).mono ?_
      rintro r w4 ⟨rfl, hb4⟩
      have HB4 := Lib.hid (HB3.out.trans (hb4.mono HB3.out.size))
      clear hb4
      go_wp2_with fail
      go_ret
      exact ⟨rfl, HB4.out⟩
    · have hsrt := (rightE_iff.1 hR).2
      have hpl : (prnE es keep bot).length ≤ 1000 := Nat.le_trans (prn_sub es keep bot).length_le hle
      have HP1 := Lib.hid (mg_prune w2 _ _ es (HE.out w2 HB2.out) hR HF.out (by omega) keep bot)
      have HPR : Hid (rightE (prnE es keep bot) = true ∧ (∀ x ∈ prnE es keep bot, FitE x)) := Lib.hid ⟨right_sub hR (prn_sub _ _ _), fun x hx => HF.out x ((prn_sub es keep bot).subset hx)⟩
      have HPP := Lib.hid (prn_prn hsrt keep bot)
      have HSP : Hid (∀ up, keep ≤ up → seenE (prnE es keep bot) up = seenE es up) := Lib.hid (fun up hu => seen_prn hsrt hu bot)
      have HS1 : Hid (∀ V up, Below w.heap.size w V → Calls Try.prog 43 #[.slice p0 es.length c0, .int .u64 ((up : Nat) : Int)] V fun r w' => ∃ u, r = .returned (.tuple #[u, .int .i64 0]) ∧ En w' (fun k => V.heap.size ≤ k) u (seenE es up) ∧ Below V.heap.size V w') := Lib.hid (fun V up hV => mg_seen V _ _ es (HE.out V hV) hR HF.out hl up)
      have HSa : Hid (∀ V F G v u l, En V F v l → En V G u l → Calls Try.prog 27 #[v, u] V fun r w' => r = .returned (.bool true) ∧ Below V.heap.size V w') := Lib.hid (fun V F G v u l h1 h2 => by
        have h := l5_sameRows V F G v u l l h1 h2
        rw [sameL_iff.2 rfl] at h
        exact h)
      generalize hpp : prnE es keep bot = ps at *
      clear hR hpp hsrt
      go_wp2_with fail
      refine HP1.out.mono ?_
      rintro r w3 ⟨ua, rfl, ha, hb3⟩
      obtain ⟨pa, ca, rfl, _, _, _, _⟩ := ha.form
      have HA := Lib.hid ha
      have HB3 := Lib.hid (HB2.out.trans (hb3.mono HB2.out.size))
      have hp2 := mg_prune w3 _ _ ps ha HPR.out.1 HPR.out.2 (by omega) keep bot
      rw [HPP.out] at hp2
      have HP2 := Lib.hid hp2
      clear hb3 ha hp2
      go_wp2_with fail
      refine HP2.out.mono ?_
      rintro r w4 ⟨ub, rfl, hb, hb4⟩
      obtain ⟨pb, cb, rfl, _, _, _, _⟩ := hb.form
      have HSm := Lib.hid (HSa.out w4 _ _ _ _ _ (HA.out.below hb4) hb)
      have HA4 := Lib.hid (HA.out.below hb4)
      have HB4 := Lib.hid (HB3.out.trans (hb4.mono HB3.out.size))
      clear hb4 hb HA HP2
      go_wp2_with fail
      refine HSm.out.mono ?_
      rintro r w5 ⟨rfl, hb5⟩
      have HB5 := Lib.hid (HB4.out.trans (hb5.mono HB4.out.size))
      have HA5 := Lib.hid (HA4.out.below hb5)
      clear hb5 HSm HA4
      have HSn : Hid (∀ V F v up, Below w.heap.size w V → keep ≤ up → En V F v ps → Calls Try.prog 43 #[v, .int .u64 ((up : Nat) : Int)] V fun r w' => ∃ u, r = .returned (.tuple #[u, .int .i64 0]) ∧ En w' (fun k => V.heap.size ≤ k) u (seenE es up) ∧ Below V.heap.size V w') := Lib.hid (fun V F v up hV hu hE => by
        have h := mg_seen V F v ps hE HPR.out.1 HPR.out.2 (by omega) up
        rw [HSP.out up hu] at h
        exact h)
      by_cases hov : keep + more < 18446744073709551616
      · have hwrap : IntKind.u64.wrap ((keep : Int) + (more : Int)) = ((keep + more : Nat) : Int) := by
          have := HKm.out
          rw [IntKind.wrap_u64]; omega
        have hq : decide (((keep + more : Nat) : Int) < (keep : Int)) = false := decide_eq_false (by omega)
        have hs1 := HS1.out w5 (keep + more) HB5.out
        rw [Int.natCast_add] at hs1
        have HX1 := Lib.hid hs1
        have HX2 : Hid (∀ V F v, Below w.heap.size w V → En V F v ps → Calls Try.prog 43 #[v, .int .u64 ((keep : Int) + (more : Int))] V fun r w' => ∃ u, r = .returned (.tuple #[u, .int .i64 0]) ∧ En w' (fun k => V.heap.size ≤ k) u (seenE es (keep + more)) ∧ Below V.heap.size V w') := Lib.hid (fun V F v hV hE => by
          have h := HSn.out V F v (keep + more) hV (by omega) hE
          rw [Int.natCast_add] at h
          exact h)
        clear hs1
        go_wp2_with fail
        refine HX1.out.mono ?_
        rintro r w6 ⟨uc, rfl, hc, hb6⟩
        obtain ⟨pc, cc, rfl, _, _, _, _⟩ := hc.form
        have HC := Lib.hid hc
        have HA6 := Lib.hid (HA5.out.below hb6)
        have HB6 := Lib.hid (HB5.out.trans (hb6.mono HB5.out.size))
        clear hb6 hc HA5
        go_wp2_with fail
        refine (HX2.out _ _ _ HB6.out HA6.out).mono ?_
        rintro r w7 ⟨ud, rfl, hd, hb7⟩
        obtain ⟨pd, cd, rfl, _, _, _, _⟩ := hd.form
        have HSm := Lib.hid (HSa.out w7 _ _ _ _ _ (HC.out.below hb7) hd)
        have HB7 := Lib.hid (HB6.out.trans (hb7.mono HB6.out.size))
        clear hb7 hd HC
        go_wp2_with fail
        refine HSm.out.mono ?_
        rintro r w8 ⟨rfl, hb8⟩
        have HB8 := Lib.hid (HB7.out.trans (hb8.mono HB7.out.size))
        clear hb8
        go_wp2_with fail
        go_ret
        exact ⟨rfl, HB8.out⟩
      · obtain ⟨s, hs⟩ : ∃ s : Nat, (s : Int) = (keep : Int) + (more : Int) - 18446744073709551616 := ⟨keep + more - 18446744073709551616, by omega⟩
        have hwrap : IntKind.u64.wrap ((keep : Int) + (more : Int)) = (s : Int) := by
          have := HKm.out
          rw [IntKind.wrap_u64]; omega
        have hlt : (s : Int) < (keep : Int) := by have := HKm.out; omega
        clear hov hs
        have HX1 := Lib.hid (HS1.out w5 keep HB5.out)
        have HX2 : Hid (∀ V F v, Below w.heap.size w V → En V F v ps → Calls Try.prog 43 #[v, .int .u64 (keep : Int)] V fun r w' => ∃ u, r = .returned (.tuple #[u, .int .i64 0]) ∧ En w' (fun k => V.heap.size ≤ k) u (seenE es keep) ∧ Below V.heap.size V w') := Lib.hid (fun V F v hV hE => HSn.out V F v keep hV (by omega) hE)
        go_wp2_with fail
        refine HX1.out.mono ?_
        rintro r w6 ⟨uc, rfl, hc, hb6⟩
        obtain ⟨pc, cc, rfl, _, _, _, _⟩ := hc.form
        have HC := Lib.hid hc
        have HA6 := Lib.hid (HA5.out.below hb6)
        have HB6 := Lib.hid (HB5.out.trans (hb6.mono HB5.out.size))
        clear hb6 hc HA5
        go_wp2_with fail
        refine (HX2.out _ _ _ HB6.out HA6.out).mono ?_
        rintro r w7 ⟨ud, rfl, hd, hb7⟩
        obtain ⟨pd, cd, rfl, _, _, _, _⟩ := hd.form
        have HSm := Lib.hid (HSa.out w7 _ _ _ _ _ (HC.out.below hb7) hd)
        have HB7 := Lib.hid (HB6.out.trans (hb7.mono HB6.out.size))
        clear hb7 hd HC
        go_wp2_with fail
        refine HSm.out.mono ?_
        rintro r w8 ⟨rfl, hb8⟩
        have HB8 := Lib.hid (HB7.out.trans (hb8.mono HB7.out.size))
        clear hb8
        go_wp2_with fail
        go_ret
        exact ⟨rfl, HB8.out⟩
end Go.Proofs.Ytdmjkejadaienaa
