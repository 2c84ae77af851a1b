/-
  The walk over glacierlaw1.CodecFronts: for any parts (of a bulk that a machine bears) and any cut the answer is true, and no memory that was there is changed.
-/
import Derived.Test.YtjhafhfneedmjaaDoorReadsW
import Derived.Test.YtjhafhfneedmjaaDoorFront
namespace Go.Proofs.YtjhafhfneedmjaaDoor
open Go.RowKit

set_option maxRecDepth 100000 in
set_option maxHeartbeats 4000000 in
theorem fronts_any (vl : Value) (ls : List (List UInt8)) (cut : Int) (w : World) (hl : RdL w w.heap.size vl ls) (ht : Tabs w) (hf : flen ls ≤ 1048576) (hn : ls.length ≤ 1048576) (hm1 : -9223372036854775808 ≤ cut) (hm2 : cut ≤ 9223372036854775807) :
    Calls Tryd.prog 7 #[vl, .int .i64 cut] w fun e w' => e = .returned (.bool true) ∧ Below w.heap.size w w' := by
  have hroom : room ls ≤ 1048576 * 15 := by unfold room; unfold flen at hf; omega
  have HT := Lib.hid ht
  have HL := Lib.hid hl
  obtain ⟨q, capq, rfl, hqc, hq47, hqm, hqat⟩ := hl
  have HQ := Lib.hid hqat
  clear ht hqat
  go_enter Tryd.func7, Tryd.ntmps7
  go_wp2_with fail
  refine (known_any w HT.out).mono ?_
  rintro e w1 ⟨rfl, hb1⟩
  have HL1 := Lib.hid (HL.out.below hb1)
  have HT1 := Lib.hid (HT.out.under hb1 HT.out.two)
  have HB1 := Lib.hid hb1
  have hsz1 := hb1.size
  clear hb1
  go_wp2_with fail
  refine (total_any _ ls w.heap.size w1 HL1.out (by omega)).mono ?_
  rintro e w1' ⟨rfl, rfl⟩
  by_cases hbig2 : 65536 < flen ls
  · have d2 : decide ((65536 : Int) < (flen ls : Int)) = true := by simp; omega
    go_wp2_with fail
    go_ret
    exact ⟨rfl, HB1.out⟩
  have d2 : decide ((65536 : Int) < (flen ls : Int)) = false := by simp; omega
  by_cases hmany : 1000 < ls.length
  · have d3 : decide ((1000 : Int) < (ls.length : Int)) = true := by simp; omega
    go_wp2_with fail
    go_ret
    exact ⟨rfl, HB1.out⟩
  have d3 : decide ((1000 : Int) < (ls.length : Int)) = false := by simp; omega
  go_wp2_with fail
  refine (frames_any _ ls w.heap.size w1 HL1.out hsz1 HT1.out (by omega)).mono ?_
  rintro e w2 ⟨vf, rfl, hown2, hb2⟩
  have hfl := frames_length ls (by unfold flen at hf; omega)
  have HB2 := Lib.hid (HB1.out.trans (hb2.mono hsz1))
  have HF2 := Lib.hid (hown2.rd (by omega))
  have HT2 := Lib.hid (HT.out.under HB2.out HT.out.two)
  have hsz2 := HB2.out.size
  clear hown2 hb2
  obtain ⟨pf, cf, rfl⟩ := bytes_val HF2.out
  obtain ⟨_, _, e1, hfc, hf47, hfm, _⟩ := HF2.out.form
  injection e1 with e1 _ e2
  subst e1 e2
  by_cases hneg : cut < 0
  · have d4 : decide (cut < 0) = true := by simp; omega
    go_wp2_with fail
    go_ret
    exact ⟨rfl, HB2.out⟩
  have d4 : decide (cut < 0) = false := by simp; omega
  obtain ⟨c, rfl⟩ := Int.eq_ofNat_of_zero_le (show 0 ≤ cut by omega)
  by_cases hlong : (frames ls).length < c
  · have d5 : decide (((frames ls).length : Int) < (c : Int)) = true := by simp; omega
    go_wp2_with fail
    go_ret
    exact ⟨rfl, HB2.out⟩
  have d5 : decide (((frames ls).length : Int) < (c : Int)) = false := by simp; omega
  have hall : ∀ l ∈ ls, l.length ≤ 67108864 := by
    intro l hm
    obtain ⟨i, hi⟩ := List.mem_iff_getElem?.1 hm
    have := flat_mem ls i l hi
    unfold flen at hf
    omega
  obtain ⟨K, A, er, hrf, hwh, her⟩ : ∃ K A er, rdFrames ((frames ls).take c) = (ls.take K, A, er) ∧ wh ls c = (K, A) ∧ ((A = c ∧ er = 0) ∨ (A ≠ c ∧ er = 11)) := by
    refine ⟨_, _, _, rdFrames_front ls c hall (by omega), rfl, ?_⟩
    by_cases h : (wh ls c).2 = c
    · exact .inl ⟨h, if_pos h⟩
    · exact .inr ⟨h, if_neg h⟩
  have HW := Lib.hid hwh
  have HER := Lib.hid her
  have hcl : c ≤ (frames ls).length := by omega
  have HCut := Lib.hid (HF2.out.take (n := c) hcl)
  have htl : ((frames ls).take c).length ≤ 1000000000 := by rw [List.length_take]; omega
  have HTl := Lib.hid htl
  clear hwh her hall htl
  go_wp2_with fail
  refine (readFrames_any _ ((frames ls).take c) w2.heap.size w2 HCut.out (Nat.le_refl _) HT2.out (by have := HTl.out; omega)).mono ?_
  rintro e w3 ⟨vp, rfl, hp3, hb3⟩
  rw [hrf] at hp3 ⊢
  have HB3 := Lib.hid (HB2.out.trans (hb3.mono hsz2))
  have HP := Lib.hid hp3
  have hsz3 := HB3.out.size
  clear hp3 hb3 hrf
  obtain ⟨pp, pc, rfl, _⟩ := id HP.out
  obtain ⟨LK, hLK⟩ : ∃ LK, (ls.take K).length = LK := ⟨_, rfl⟩
  have HLK := Lib.hid (show LK = min K ls.length by rw [← hLK, List.length_take])
  rw [hLK] at HP ⊢
  clear hLK
  have HST := Lib.hid (show wh ls c = (0 + (wh (ls.drop 0) (c - 0)).1, 0 + (wh (ls.drop 0) (c - 0)).2) by simp)
  go_wp2_with fail
  go_loopw [9, 10] (fun a i wr => ∃ k t : Nat, a = .int .i64 (t : Int) ∧ i = .int .i64 (k : Int) ∧ k ≤ ls.length ∧ t ≤ c ∧ wh ls c = (k + (wh (ls.drop k) (c - t)).1, t + (wh (ls.drop k) (c - t)).2) ∧ Below w3.heap.size w3 wr) (fun _ i _ => ls.length - (intOf i).toNat)
  case atStart => exact ⟨0, 0, rfl, rfl, by omega, by omega, HST.out, Below.refl _ _⟩
  case round =>
    obtain ⟨k, t, rfl, rfl, hk, htc, hst, hbw⟩ := hrel
    have HS := Lib.hid hst
    have HB3r := Lib.hid (HB3.out.trans (hbw.mono hsz3))
    have HTr := Lib.hid (HT.out.under HB3r.out HT.out.two)
    have hszr := HB3r.out.size
    clear hst
    by_cases hlt : k < ls.length
    · have dk : decide ((k : Int) < (ls.length : Int)) = true := by simp; omega
      have dk2 : decide (k < ls.length) = true := by simp; omega
      obtain ⟨b, off, u, rfl, hb, hc, hrd⟩ := HQ.out k _ (List.getElem?_eq_getElem hlt)
      have hc1 := (below_cells HB3r.out b (off + k) (by omega)).trans hc
      have HRm := Lib.hid (hrd.below HB3r.out)
      have hml := flat_mem ls k _ (List.getElem?_eq_getElem hlt)
      rw [show ls.flatten.length = flen ls from rfl] at hml
      have HG := Lib.hid (wh_step ls k c t _ (List.getElem?_eq_getElem hlt))
      have HG2 := Lib.hid (fun h : c < t + (frame ls[k]).length => wh_stop ls k c t HS.out (.inr ⟨_, List.getElem?_eq_getElem hlt, h⟩))
      clear hc hrd
      generalize ls[k] = m at *
      obtain ⟨pm, cm, rfl⟩ := bytes_val HRm.out
      have hfm := frame_length m (by omega)
      go_wp2_with fail
      refine (frame_any _ m w.heap.size wr HRm.out hszr HTr.out (by omega)).mono ?_
      rintro e w4 ⟨v4, rfl, hown4, hb4⟩
      obtain ⟨p4, c4, rfl⟩ := bytes_val (hown4.rd (by omega))
      have HB4 := Lib.hid hb4
      have hb04 := HB3r.out.trans (hb4.mono hszr)
      have HRm4 := Lib.hid (HRm.out.under hb4 hszr)
      have HT4 := Lib.hid (HT.out.under hb04 HT.out.two)
      have HB04 := Lib.hid hb04
      have hsz4 := hb04.size
      have hc4 := (below_cells hb4 b (off + k) (by omega)).trans hc1
      clear hown4 hb04
      by_cases hfit : t + (frame m).length ≤ c
      · have d6 : decide ((t : Int) + ((frame m).length : Int) ≤ (c : Int)) = true := by simp; omega
        clear hb4
        go_wp2_with fail
        refine (frame_any _ m w.heap.size w4 HRm4.out hsz4 HT4.out (by omega)).mono ?_
        rintro e w5 ⟨v5, rfl, hown5, hb5⟩
        obtain ⟨p5, c5, rfl⟩ := bytes_val (hown5.rd (by omega))
        have HB5 := Lib.hid (hbw.trans ((HB4.out.mono hbw.size).trans (hb5.mono (Nat.le_trans hbw.size HB4.out.size))))
        have HN := Lib.hid (HG.out hfit HS.out)
        clear hown5 hb5
        go_wp2_with fail
        go_roundw
        case rel => exact ⟨k + 1, t + (frame m).length, by go_num, by go_num, by omega, hfit, HN.out, HB5.out⟩
        case measure => simp [intOf]; omega
      · have d6 : decide ((t : Int) + ((frame m).length : Int) ≤ (c : Int)) = false := by simp; omega
        have hstop := HG2.out (by omega)
        have hbw4 := hbw.trans (hb4.mono hbw.size)
        clear hbw HB3r HTr hb4
        have hbw := hbw4
        have HB3r := HB04
        clear hbw4
        have hX : True := trivial
        obtain ⟨rfl, rfl⟩ : K = k ∧ A = t := by
          have h := HW.out.symm.trans hstop
          simp only [Prod.mk.injEq] at h
          exact h
        obtain rfl : LK = K := by have := HLK.out; omega
        have HPr := Lib.hid (HP.out.under hbw (Nat.le_refl _))
        have HLr := Lib.hid (HL.out.below HB3r.out)
        obtain ⟨_, _, e1, hplc, hpl, hpm, hpat⟩ := HPr.out
        injection e1 with e1 em e2
        clear em
        subst e1 e2
        have HPA := Lib.hid hpat
        obtain ⟨_, _, e1, _, _, _, hlat⟩ := HLr.out
        injection e1 with e1 _ e2
        subst e1 e2
        have HLA := Lib.hid hlat
        clear hpat hlat hstop
        rcases HER.out with ⟨he1, he2⟩ | ⟨he1, he2⟩
        · subst he1 he2
          go_wp2_with fail
          go_loopw [11] (fun i wq => ∃ j m : Nat, i = .int .i64 (j : Int) ∧ j ≤ LK ∧ wq = w4.drewN m) (fun i _ => LK - (intOf i).toNat)
          case atStart => exact ⟨0, 0, rfl, by omega, rfl⟩
          case round =>
            obtain ⟨j, m, rfl, hj, rfl⟩ := hrel
            by_cases hlj : j < LK
            · have hlj2 : j < ls.length := by omega
              obtain ⟨b, off, u, rfl, hb, hc, hr1⟩ := HPA.out j ls[j] (by rw [List.getElem?_take, if_pos hlj]; exact List.getElem?_eq_getElem hlj2)
              obtain ⟨b', off', u', e3, hb', hc', hr2⟩ := HLA.out j _ (List.getElem?_eq_getElem hlj2)
              simp only [Option.some.injEq, Addr.mk.injEq, and_true] at e3
              obtain ⟨rfl, rfl⟩ := e3
              have H1 := Lib.hid hr1
              have H2 := Lib.hid hr2
              clear hr1 hr2
              generalize ls[j] = x at *
              go_wp2_with fail
              go_quiet ((go_at_call 20; exact q_add (same_any _ _ x x _ _ true _ (H1.out.drewN _) (H2.out.drewN _) (by simp))))
              go_wp2_with fail
              go_roundw
              case rel => exact ⟨j + 1, _, by go_num, by omega, by go_num⟩
              case measure => simp [intOf]; omega
            · go_wp2_with fail
              go_ret
              exact ⟨rfl, below_drewN HB3r.out m⟩
        · subst he2
          have b1 : ((A : Int) == (c : Int)) = false := beq_eq_false_iff_ne.2 (by omega)
          have b2 : ((A : Int) != (c : Int)) = true := by rw [bne_iff_ne]; omega
          clear he1
          go_wp2_with fail
          go_loopw [11] (fun i wq => ∃ j m : Nat, i = .int .i64 (j : Int) ∧ j ≤ LK ∧ wq = w4.drewN m) (fun i _ => LK - (intOf i).toNat)
          case atStart => exact ⟨0, 0, rfl, by omega, rfl⟩
          case round =>
            obtain ⟨j, m, rfl, hj, rfl⟩ := hrel
            by_cases hlj : j < LK
            · have hlj2 : j < ls.length := by omega
              obtain ⟨b, off, u, rfl, hb, hc, hr1⟩ := HPA.out j ls[j] (by rw [List.getElem?_take, if_pos hlj]; exact List.getElem?_eq_getElem hlj2)
              obtain ⟨b', off', u', e3, hb', hc', hr2⟩ := HLA.out j _ (List.getElem?_eq_getElem hlj2)
              simp only [Option.some.injEq, Addr.mk.injEq, and_true] at e3
              obtain ⟨rfl, rfl⟩ := e3
              have H1 := Lib.hid hr1
              have H2 := Lib.hid hr2
              clear hr1 hr2
              generalize ls[j] = x at *
              go_wp2_with fail
              go_quiet ((go_at_call 20; exact q_add (same_any _ _ x x _ _ true _ (H1.out.drewN _) (H2.out.drewN _) (by simp))))
              go_wp2_with fail
              go_roundw
              case rel => exact ⟨j + 1, _, by go_num, by omega, by go_num⟩
              case measure => simp [intOf]; omega
            · go_wp2_with fail
              go_ret
              exact ⟨rfl, below_drewN HB3r.out m⟩
    · have dk : decide ((k : Int) < (ls.length : Int)) = false := by simp; omega
      have dk2 : decide (k < ls.length) = false := by simp; omega
      have hstop := wh_stop ls k c t HS.out (.inl (by omega))
      obtain ⟨rfl, rfl⟩ : K = k ∧ A = t := by
        have h := HW.out.symm.trans hstop
        simp only [Prod.mk.injEq] at h
        exact h
      obtain rfl : LK = K := by have := HLK.out; omega
      have HPr := Lib.hid (HP.out.under hbw (Nat.le_refl _))
      have HLr := Lib.hid (HL.out.below HB3r.out)
      obtain ⟨_, _, e1, hplc, hpl, hpm, hpat⟩ := HPr.out
      injection e1 with e1 em e2
      clear em
      subst e1 e2
      have HPA := Lib.hid hpat
      obtain ⟨_, _, e1, _, _, _, hlat⟩ := HLr.out
      injection e1 with e1 _ e2
      subst e1 e2
      have HLA := Lib.hid hlat
      clear hpat hlat hstop
      rcases HER.out with ⟨he1, he2⟩ | ⟨he1, he2⟩
      · subst he1 he2
        go_wp2_with fail
        go_loopw [11] (fun i wq => ∃ j m : Nat, i = .int .i64 (j : Int) ∧ j ≤ LK ∧ wq = wr.drewN m) (fun i _ => LK - (intOf i).toNat)
        case atStart => exact ⟨0, 0, rfl, by omega, rfl⟩
        case round =>
          obtain ⟨j, m, rfl, hj, rfl⟩ := hrel
          by_cases hlj : j < LK
          · have hlj2 : j < ls.length := by omega
            obtain ⟨b, off, u, rfl, hb, hc, hr1⟩ := HPA.out j ls[j] (by rw [List.getElem?_take, if_pos hlj]; exact List.getElem?_eq_getElem hlj2)
            obtain ⟨b', off', u', rfl, hb', hc', hr2⟩ := HLA.out j _ (List.getElem?_eq_getElem hlj2)
            have H1 := Lib.hid hr1
            have H2 := Lib.hid hr2
            clear hr1 hr2
            generalize ls[j] = x at *
            go_wp2_with fail
            go_quiet ((go_at_call 20; exact q_add (same_any _ _ x x _ _ true _ (H1.out.drewN _) (H2.out.drewN _) (by simp))))
            go_wp2_with fail
            go_roundw
            case rel => exact ⟨j + 1, _, by go_num, by omega, by go_num⟩
            case measure => simp [intOf]; omega
          · go_wp2_with fail
            go_ret
            exact ⟨rfl, below_drewN HB3r.out m⟩
      · subst he2
        have b1 : ((A : Int) == (c : Int)) = false := beq_eq_false_iff_ne.2 (by omega)
        have b2 : ((A : Int) != (c : Int)) = true := by rw [bne_iff_ne]; omega
        clear he1
        go_wp2_with fail
        go_loopw [11] (fun i wq => ∃ j m : Nat, i = .int .i64 (j : Int) ∧ j ≤ LK ∧ wq = wr.drewN m) (fun i _ => LK - (intOf i).toNat)
        case atStart => exact ⟨0, 0, rfl, by omega, rfl⟩
        case round =>
          obtain ⟨j, m, rfl, hj, rfl⟩ := hrel
          by_cases hlj : j < LK
          · have hlj2 : j < ls.length := by omega
            obtain ⟨b, off, u, rfl, hb, hc, hr1⟩ := HPA.out j ls[j] (by rw [List.getElem?_take, if_pos hlj]; exact List.getElem?_eq_getElem hlj2)
            obtain ⟨b', off', u', rfl, hb', hc', hr2⟩ := HLA.out j _ (List.getElem?_eq_getElem hlj2)
            have H1 := Lib.hid hr1
            have H2 := Lib.hid hr2
            clear hr1 hr2
            generalize ls[j] = x at *
            go_wp2_with fail
            go_quiet ((go_at_call 20; exact q_add (same_any _ _ x x _ _ true _ (H1.out.drewN _) (H2.out.drewN _) (by simp))))
            go_wp2_with fail
            go_roundw
            case rel => exact ⟨j + 1, _, by go_num, by omega, by go_num⟩
            case measure => simp [intOf]; omega
          · go_wp2_with fail
            go_ret
            exact ⟨rfl, below_drewN HB3r.out m⟩
end Go.Proofs.YtjhafhfneedmjaaDoor
