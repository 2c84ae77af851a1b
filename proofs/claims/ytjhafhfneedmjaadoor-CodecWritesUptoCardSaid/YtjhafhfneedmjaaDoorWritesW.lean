/-
  The walk over glacierlaw1.CodecWrites: for any bytes, number and parts (of a bulk that a machine bears) the answer is true, and no memory that was there is changed.
-/
import Derived.Test.YtjhafhfneedmjaaDoorByW
namespace Go.Proofs.YtjhafhfneedmjaaDoor
open Go.RowKit

theorem own_new0 (w : World) : Own (w.alloc (.cells #[] 5)) w.heap.size (.slice (some ⟨w.heap.size, 0, none⟩) 0 0) [] :=
  Own.of (n := 0) (xs := []) ⟨by simp, .inr ⟨w.heap.size, 0, #[], rfl, Nat.le_refl _, heap_alloc_new w _, Nat.le_refl _, by unfold maxLen; omega, by simp, by simp⟩⟩ rfl rfl

set_option maxRecDepth 100000 in
set_option maxHeartbeats 2000000 in
theorem writes_any (vb vl : Value) (l : List UInt8) (n : Nat) (ls : List (List UInt8)) (w : World) (hb : Rd w w.heap.size vb l) (hl : RdL w w.heap.size vl ls) (ht : Tabs w) (hn : n < 18446744073709551616)
    (hl1 : l.length ≤ 1048576) (hf : flen ls ≤ 1048576) (hm : ls.length ≤ 1048576) :
    Calls Tryd.prog 5 #[vb, .int .u64 (n : Int), vl] w fun e w' => e = .returned (.bool true) ∧ Below w.heap.size w w' := by
  have hnl := num_len10 n hn
  have hnf := num_len10 (flen ls) (by omega)
  have hroom : room ls ≤ 140737488355000 := by unfold room; unfold flen at hf; omega
  have HT := Lib.hid ht
  have HL := Lib.hid hl
  have HR := Lib.hid hb
  have HN := Lib.hid hn
  obtain ⟨p, cap, rfl, hlc, hl47, hcm, hat⟩ := hb.form
  obtain ⟨q, capq, rfl, hqc, hq47, hqm, hqat⟩ := hl
  have HQ := Lib.hid hqat
  clear ht hb hn hat hqat
  go_enter Tryd.func5, Tryd.ntmps5
  go_wp2_with fail
  refine (known_any w HT.out).mono ?_
  rintro e w1 ⟨rfl, hb1⟩
  have HL1 := Lib.hid (HL.out.below hb1)
  have HR1 := Lib.hid (HR.out.below hb1)
  have HT1 := Lib.hid (HT.out.under hb1 HT.out.two)
  have HB1 := Lib.hid hb1
  have hsz1 := hb1.size
  clear hb1
  by_cases hbig : 65536 < l.length
  · have d1 : decide ((65536 : Int) < (l.length : Int)) = true := by simp; omega
    go_wp2_with fail
    go_ret
    exact ⟨rfl, HB1.out⟩
  have d1 : decide ((65536 : Int) < (l.length : Int)) = false := by simp; omega
  go_wp2_with fail
  refine (total_any _ ls w.heap.size w1 HL1.out (by omega)).mono ?_
  rintro e w1' ⟨rfl, rfl⟩
  by_cases hbig2 : 65536 < flen ls
  · have d2 : decide ((65536 : Int) < (flen ls : Int)) = true := by simp; omega
    go_wp2_with fail
    go_ret
    exact ⟨rfl, HB1.out⟩
  have d2 : decide ((65536 : Int) < (flen ls : Int)) = false := by simp; omega
  by_cases hmany : 1000 < ls.length
  · have d3 : decide ((1000 : Int) < (ls.length : Int)) = true := by simp; omega
    go_wp2_with fail
    go_ret
    exact ⟨rfl, HB1.out⟩
  have d3 : decide ((1000 : Int) < (ls.length : Int)) = false := by simp; omega
  -- mine
  go_wp2_with (at_builtin; refine wpList_append_rd rfl _ _ rfl w1.heap.size w.heap.size _ _ [] l rfl (own_new0 w1) rfl (HR1.out.under (below_alloc w1 _) hsz1) (by simp; omega) (by simp) ?_; intro vM w2 hownM hb2)
  rw [List.nil_append] at hownM
  have hb12 : Below w1.heap.size w1 w2 := (below_alloc w1 _).trans hb2
  have hb02 : Below w.heap.size w w2 := HB1.out.trans (hb12.mono hsz1)
  have hsz2 := hb02.size
  have HM2 := Lib.hid (hownM.rd (by omega))
  have HR2 := Lib.hid (HR.out.below hb02)
  have HL2 := Lib.hid (HL.out.below hb02)
  clear hownM hb2 hb12
  refine (number_any vM l n w2.heap.size w2 HN.out HM2.out (Nat.le_refl _) (by omega)).mono ?_
  rintro e w3 ⟨vN, rfl, hownN, hb3⟩
  have hb03 := hb02.trans (hb3.mono hsz2)
  have hsz3 := hb03.size
  have hsz23 := hb3.size
  have HN3 := Lib.hid (hownN.rd (by simp only [List.length_append]; omega))
  have HM3 := Lib.hid (HM2.out.under hb3 (Nat.le_refl _))
  have HR3 := Lib.hid (HR.out.below hb03)
  clear hownN hb3 hb02
  go_wp2_with (at_builtin; refine wpList_append_rd rfl _ _ rfl w3.heap.size w.heap.size _ _ [] l rfl (own_new0 w3) rfl (HR3.out.under (below_alloc w3 _) hsz3) (by simp; omega) (by simp) ?_; intro vA w4 hownA hb4)
  rw [List.nil_append] at hownA
  have hb34 : Below w3.heap.size w3 w4 := (below_alloc w3 _).trans hb4
  have hsz4 := hb34.size
  refine (refNumber_any vA l n w3.heap.size w4 HN.out hownA hsz4 (by omega)).mono ?_
  rintro e w5 ⟨vP, rfl, hownP, hb5⟩
  have hb35 := hb34.trans hb5
  have hb05 := hb03.trans (hb35.mono hsz3)
  have hsz5 := hb05.size
  have hsz35 := hb35.size
  have HP5 := Lib.hid (hownP.rd (by simp only [List.length_append]; omega))
  have HN5 := Lib.hid (HN3.out.under hb35 (Nat.le_refl _))
  have HM5 := Lib.hid (HM3.out.under hb35 hsz23)
  have HL5 := Lib.hid (HL.out.below hb05)
  clear hownA hownP hb4 hb34 hb5 hb35 hb03
  go_wp2_with fail
  refine (same_any _ _ _ _ _ _ true w5 HN5.out HP5.out (by simp)).mono ?_
  rintro e w5' ⟨rfl, rfl⟩
  go_wp2_with fail
  refine (bytes_any vM _ l ls w2.heap.size w.heap.size w5 HM5.out (by omega) HL5.out hsz5 (by omega)).mono ?_
  rintro e w6 ⟨vB, rfl, hownB, hb6⟩
  have hb06 := hb05.trans (hb6.mono hsz5)
  have hsz6 := hb06.size
  have hsz56 := hb6.size
  have HB6 := Lib.hid (hownB.rd (by simp only [List.length_append]; unfold flen at hf hnf ⊢; omega))
  have HM6 := Lib.hid (HM5.out.under hb6 (by omega))
  have HR6 := Lib.hid (HR.out.below hb06)
  clear hownB hb6 hb05
  go_wp2_with (at_builtin; refine wpList_unguard rfl ?_; refine wpList_append_rd rfl _ _ rfl w6.heap.size w.heap.size _ _ [] l rfl (own_new0 w6) rfl (HR6.out.under (below_alloc w6 _) hsz6) (by simp; omega) (by simp) ?_; intro vC w7 hownC hb7)
  rw [List.nil_append] at hownC
  have hb67 : Below w6.heap.size w6 w7 := (below_alloc w6 _).trans hb7
  have hb07 := hb06.trans (hb67.mono hsz6)
  have hsz7 := hb07.size
  have hsz67 := hb67.size
  have HL7 := Lib.hid (HL.out.below hb07)
  refine (joined_any _ ls w.heap.size w7 HL7.out hsz7 (by unfold flen at hf; omega)).mono ?_
  rintro e w8 ⟨vJ, rfl, hownJ, hb8⟩
  have hownC8 := hownC.after hb8
  have hne : ∀ k, vC.ownBlock = some k → vJ.ownBlock ≠ some k := fun k hk hk2 => by
    have h1 := (World.ownsRow.lt hownC k hk).2
    have h2 := hownJ.block k hk2
    omega
  have HNe := Lib.hid hne
  have HJ := Lib.hid hownJ
  have HC8 := Lib.hid hownC8
  have hsz78 := hb8.size
  have hb68 := hb67.trans (hb8.mono hsz67)
  clear hne hownJ hownC hownC8 hb7 hb67 hb07 hb8
  go_wp2_with fail
  refine (refBytes_any vC vJ l ls.flatten w6.heap.size w7.heap.size w8 HC8.out HJ.out HNe.out (by omega) (by unfold flen at hf; omega)).mono ?_
  rintro e w9 ⟨vD, rfl, hownD, hb9⟩
  have hb69 := hb68.trans hb9
  have hb09 := hb06.trans (hb69.mono hsz6)
  have hsz9 := hb09.size
  have hsz69 := hb69.size
  have HD9 := Lib.hid (hownD.rd (by simp only [List.length_append]; unfold flen at hf hnf; omega))
  have HB9 := Lib.hid (HB6.out.under hb69 (Nat.le_refl _))
  have HM9 := Lib.hid (HM6.out.under hb69 (by omega))
  have HR9 := Lib.hid (HR.out.below hb09)
  clear hownD hb68 hb9 hb69 hb06
  go_wp2_with fail
  refine (same_any _ _ _ _ _ _ true w9 HB9.out HD9.out (by simp [flen])).mono ?_
  rintro e w9' ⟨rfl, rfl⟩
  go_wp2_with fail
  refine (same_any _ _ _ _ _ _ true w9 HM9.out HR9.out (by simp)).mono ?_
  rintro e w9' ⟨rfl, rfl⟩
  have HB09 := Lib.hid hb09
  clear hb09
  go_wp2_with fail
  go_loopw [8, 9] (fun t i wr => ∃ k : Nat, k ≤ ls.length ∧ i = .int .i64 (k : Int) ∧ Own wr w9.heap.size t (frames (ls.take k)) ∧ Below w9.heap.size w9 wr) (fun _ i _ => ls.length - (intOf i).toNat)
  case atStart => exact ⟨0, by omega, rfl, own_nil _ _, Below.refl _ _⟩
  case round =>
    obtain ⟨k, hk, rfl, hown, hbw⟩ := hrel
    have hfl := frames_length (ls.take k) (by have h2 := room_take ls k; unfold room at h2 hroom; omega)
    have hrt := room_take ls k
    have hr2 : room ls ≤ 1048576 * 15 := by unfold room; unfold flen at hf; omega
    have hb0r : Below w.heap.size w _ := HB09.out.trans (hbw.mono hsz9)
    by_cases hlt : k < ls.length
    · obtain ⟨b, off, u, rfl, hb, hc, hrd⟩ := HQ.out k _ (List.getElem?_eq_getElem hlt)
      have hc1 := (below_cells hb0r b (off + k) (by omega)).trans hc
      have hrd1 := hrd.below hb0r
      have hml := flat_mem ls k _ (List.getElem?_eq_getElem hlt)
      rw [show ls.flatten.length = flen ls from rfl] at hml
      have hsn : frames (ls.take (k + 1)) = frames (ls.take k) ++ frame ls[k] := by
        rw [take_snoc ls k _ (List.getElem?_eq_getElem hlt), frames_snoc]
      have HS := Lib.hid hsn
      clear hsn hc hrd
      generalize ls[k] = m at *
      generalize frames (ls.take k) = F at *
      generalize room (ls.take k) = R at *
      have hsz := hbw.size
      have HRd := Lib.hid hrd1
      obtain ⟨p2, cap2, rfl, hlc2, hl472, hcm2, hat2⟩ := hrd1.form
      clear hrd1 hat2
      go_wp2_with fail
      refine (refFrame_any _ _ F m w9.heap.size w.heap.size _ hown HRd.out (by omega) hsz (by omega)).mono ?_
      rintro e wf ⟨vf, rfl, hownf, hbf⟩
      go_wp2_with fail
      go_roundw
      case rel => exact ⟨k + 1, by omega, by go_num, by rw [HS.out]; exact hownf, hbw.trans hbf⟩
      case measure => simp [intOf]; omega
    · rw [List.take_of_length_le (by omega)] at hown hfl
      have hsr := hb0r.size
      have HAll := Lib.hid (hown.rd (by omega))
      have HLr := Lib.hid (HL.out.below hb0r)
      have HTr := Lib.hid (HT.out.under hb0r HT.out.two)
      clear hown hbw
      go_wp2_with fail
      refine (joined_any _ ls w.heap.size _ HLr.out hsr (by unfold flen at hf; omega)).mono ?_
      rintro e wa ⟨vJ1, rfl, hownJ1, hba⟩
      have hsa := hba.size
      have HTa := Lib.hid (HTr.out.under hba HTr.out.two)
      have HJ1 := Lib.hid (hownJ1.rd (by unfold flen at hf; omega))
      clear hownJ1
      go_wp2_with fail
      refine (frame_any vJ1 ls.flatten wa.heap.size wa HJ1.out (Nat.le_refl _) HTa.out (by unfold flen at hf; omega)).mono ?_
      rintro e wb ⟨vF1, rfl, hownF1, hbb⟩
      have hsb := hbb.size
      have hff := frame_length ls.flatten (by unfold flen at hf; omega)
      have HF1 := Lib.hid (hownF1.rd (by unfold flen at hf; omega))
      have hb0b := hb0r.trans ((hba.trans (hbb.mono hsa)).mono hsr)
      have HLb := Lib.hid (HL.out.below hb0b)
      have hsb0 := hb0b.size
      clear hownF1
      go_wp2_with fail
      refine (joined_any _ ls w.heap.size _ HLb.out hsb0 (by unfold flen at hf; omega)).mono ?_
      rintro e wc ⟨vJ2, rfl, hownJ2, hbc⟩
      have hsc := hbc.size
      have HJ2 := Lib.hid (hownJ2.rd (by unfold flen at hf; omega))
      clear hownJ2
      go_wp2_with fail
      refine (refFrame_any (.slice none 0 0) vJ2 [] ls.flatten wc.heap.size wc.heap.size wc (own_nil _ _) HJ2.out (Nat.le_refl _) (Nat.le_refl _) (by unfold flen at hf; simp only [List.length_nil]; omega)).mono ?_
      rintro e wd ⟨vF2, rfl, hownF2, hbd⟩
      rw [List.nil_append] at hownF2
      have hsd := hbd.size
      have HF2 := Lib.hid (hownF2.rd (by unfold flen at hf; omega))
      have HF1d := Lib.hid ((HF1.out.under hbc (Nat.le_refl _)).under hbd (by omega))
      have hb0d := hb0b.trans ((hbc.trans (hbd.mono hsc)).mono hsb0)
      have HLd := Lib.hid (HL.out.below hb0d)
      have HTd := Lib.hid (HT.out.under hb0d HT.out.two)
      have hsd0 := hb0d.size
      clear hownF2
      go_wp2_with fail
      refine (same_any _ _ _ _ _ _ true wd HF1d.out HF2.out (by simp)).mono ?_
      rintro e wd' ⟨rfl, rfl⟩
      go_wp2_with fail
      refine (frames_any _ ls w.heap.size wd HLd.out hsd0 HTd.out hroom).mono ?_
      rintro e we ⟨vG, rfl, hownG, hbe⟩
      have HG := Lib.hid (hownG.rd (by omega))
      have hAd := ((((HAll.out.under hba (Nat.le_refl _)).under hbb hsa).under hbc (by omega)).under hbd (by omega)).under hbe (by omega)
      have HA2 := Lib.hid hAd
      have HFin := Lib.hid (hb0d.trans (hbe.mono hsd0))
      clear hownG hAd
      go_wp2_with fail
      refine (same_any _ _ _ _ _ _ true we HG.out HA2.out (by simp)).mono ?_
      rintro e we' ⟨rfl, rfl⟩
      go_wp2_with fail
      go_ret
      exact ⟨rfl, HFin.out⟩
end Go.Proofs.YtjhafhfneedmjaaDoor
