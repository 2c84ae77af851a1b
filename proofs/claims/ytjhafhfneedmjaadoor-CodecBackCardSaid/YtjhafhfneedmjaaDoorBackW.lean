/-
  The walk over glacierlaw1.CodecBack: for any number, payload and bytes the answer is true, and no memory that was there is changed.
-/
import Derived.Test.YtjhafhfneedmjaaDoorRfW
import Derived.Test.YtjhafhfneedmjaaDoorBack
import Derived.Deep.DeepCutAuto
namespace Go.Proofs.YtjhafhfneedmjaaDoor
open Go.RowKit

theorem keep_cut {w8 : World} {B : Nat} {v : Value} {l : List UInt8} (h : Rd w8 B v l) (hB : B ≤ w8.heap.size) : ∀ W wn : World, W.heap = w8.heap → Below W.heap.size W wn → Rd wn B v l :=
  fun _ _ e hb => (h.heap e).under hb (by rw [e]; exact hB)

set_option maxRecDepth 100000 in
set_option maxHeartbeats 4000000 in
theorem back_any (vx vb : Value) (x b : List UInt8) (n : Nat) (w : World) (hx : Rd w w.heap.size vx x) (hb : Rd w w.heap.size vb b) (ht : Tabs w) (hn : n < 18446744073709551616) :
    Calls Tryd.prog 6 #[.int .u64 (n : Int), vx, vb] w fun e w' => e = .returned (.bool true) ∧ Below w.heap.size w w' := by
  have hnl := num_len10 n hn
  have HT := Lib.hid ht
  have HX := Lib.hid hx
  have HR := Lib.hid hb
  have HN := Lib.hid hn
  obtain ⟨p, cap, rfl, hlc, hl47, hcm, hat⟩ := hx.form
  obtain ⟨q, qcap, rfl, hqc, hq47, hqm, hqat⟩ := hb.form
  clear ht hx hb hn hat hqat
  go_enter Tryd.func6, Tryd.ntmps6
  go_wp2_with fail
  refine (known_any w HT.out).mono ?_
  rintro e w1 ⟨rfl, hb1⟩
  have HB1 := Lib.hid hb1
  have hsz1 := hb1.size
  clear hb1
  by_cases hbig : 65536 < x.length
  · have d1 : decide ((65536 : Int) < (x.length : Int)) = true := by simp; omega
    go_wp2_with fail
    go_ret
    exact ⟨rfl, HB1.out⟩
  have d1 : decide ((65536 : Int) < (x.length : Int)) = false := by simp; omega
  by_cases hbig2 : 65536 < b.length
  · have d2 : decide ((65536 : Int) < (b.length : Int)) = true := by simp; omega
    go_wp2_with fail
    go_ret
    exact ⟨rfl, HB1.out⟩
  have d2 : decide ((65536 : Int) < (b.length : Int)) = false := by simp; omega
  go_wp2_with fail
  refine (number_any (.slice none 0 0) [] n 0 w1 HN.out (Rd.none_ _ _) (Nat.zero_le _) (by simp)).mono ?_
  rintro e w2 ⟨vn, rfl, hown2, hb2⟩
  rw [List.nil_append] at hown2
  have HB2 := Lib.hid (HB1.out.trans (hb2.mono hsz1))
  have hsz2 := HB2.out.size
  have HRn := Lib.hid (hown2.rd (by omega))
  have HR2 := Lib.hid (HR.out.below HB2.out)
  clear hown2 hb2
  obtain ⟨pn, cn, rfl⟩ := bytes_val HRn.out
  go_wp2_with (first
    | (at_builtin; refine wpList_append_rd rfl (.tmp 26) (.tmp 27) rfl w2.heap.size w2.heap.size _ _ [] (num n) rfl (own_new0' w2) rfl (HRn.out.under (below_alloc w2 _) (Nat.le_refl _)) (by simp; omega) (by simp) ?_; intro v3 w3 hown3 hb3)
    | (at_builtin; refine wpList_append_rd rfl (.tmp 28) (.tmp 29) rfl w2.heap.size w.heap.size _ _ _ b rfl hown3 rfl (HR2.out.under ((below_alloc w2 _).trans hb3) hsz2) (by simp; omega) (by have := hb3.size; simp at this; omega) ?_; intro v4 w4 hown4 hb4))
  rw [List.nil_append] at hown4
  have hb24 : Below w2.heap.size w2 w4 := (below_alloc w2 _).trans (hb3.trans hb4)
  have HB4 := Lib.hid (HB2.out.trans (hb24.mono hsz2))
  have HR4 := Lib.hid (hown4.rd (by simp only [List.length_append]; omega))
  have hsz4 := HB4.out.size
  clear hown3 hown4 hb3 hb4 hb24
  refine (readNumber_any v4 (num n ++ b) w4.heap.size w4 HR4.out).mono ?_
  rintro e w4' ⟨rfl, rfl⟩
  rw [rdNum_num n b HN.out]
  have HX4 := Lib.hid (HX.out.below HB4.out)
  have HT4 := Lib.hid (HT.out.under HB4.out HT.out.two)
  go_wp2_with fail
  refine (frame_any _ x w.heap.size w4 HX4.out hsz4 HT4.out (by omega)).mono ?_
  rintro e w5 ⟨vf, rfl, hown5, hb5⟩
  have HB5 := Lib.hid (HB4.out.trans (hb5.mono hsz4))
  have hsz5 := HB5.out.size
  have hfl := frame_length x (by omega)
  have HRf := Lib.hid (hown5.rd (by omega))
  have HR5 := Lib.hid (HR.out.below HB5.out)
  clear hown5 hb5 HR4
  obtain ⟨pf, cf, rfl⟩ := bytes_val HRf.out
  go_wp2_with (first
    | (at_builtin; refine wpList_append_rd rfl (.tmp 51) (.tmp 52) rfl w5.heap.size w5.heap.size _ _ [] (frame x) rfl (own_new0' w5) rfl (HRf.out.under (below_alloc w5 _) (Nat.le_refl _)) (by simp; omega) (by simp) ?_; intro v6 w6 hown6 hb6)
    | (at_builtin; refine wpList_append_rd rfl (.tmp 53) (.tmp 54) rfl w5.heap.size w.heap.size _ _ _ b rfl hown6 rfl (HR5.out.under ((below_alloc w5 _).trans hb6) hsz5) (by simp; omega) (by have := hb6.size; simp at this; omega) ?_; intro v7 w7 hown7 hb7))
  rw [List.nil_append] at hown7
  have hb57 : Below w5.heap.size w5 w7 := (below_alloc w5 _).trans (hb6.trans hb7)
  have HB7 := Lib.hid (HB5.out.trans (hb57.mono hsz5))
  have HR7 := Lib.hid (hown7.rd (by simp only [List.length_append]; omega))
  have HT7 := Lib.hid (HT.out.under HB7.out HT.out.two)
  have hsz7 := HB7.out.size
  clear hown6 hown7 hb6 hb7 hb57
  refine (readFrame_any v7 (frame x ++ b) w7.heap.size w7 HR7.out (Nat.le_refl _) HT7.out).mono ?_
  rintro e w8 ⟨vy, rfl, hry, _, hb8⟩
  rw [rdFrame_frame x b (by omega)] at hry ⊢
  have HB8 := Lib.hid (HB7.out.trans (hb8.mono hsz7))
  have HY := Lib.hid hry
  have HX8 := Lib.hid (HX.out.below HB8.out)
  have HR8 := Lib.hid (HR.out.below HB8.out)
  have HT8 := Lib.hid (HT.out.under HB8.out HT.out.two)
  have hsz8 := HB8.out.size
  clear hry hb8 HR7
  go_wp2_with fail
  refine (same_any _ _ x x _ _ true w8 HY.out HX8.out (by simp)).mono ?_
  rintro e w8' ⟨rfl, rfl⟩
  go_wp2_with fail
  refine (readNumber_any _ b w.heap.size w8 HR8.out).mono ?_
  rintro e w8' ⟨rfl, rfl⟩
  obtain ⟨N, k, er, hr, hcases⟩ : ∃ N k er, rdNum b = (N, k, er) ∧ ((er = 0 ∧ num N = b.take k ∧ k ≤ b.length ∧ N < 18446744073709551616) ∨ er ≠ 0) := by
    rcases rdNum_form b with ⟨v, k, h, h1, h2, _, h4⟩ | h | h
    · exact ⟨v, k, 0, h, .inl ⟨rfl, (rdNum_back b v k h).1, h2, h4⟩⟩
    · exact ⟨0, 0, 11, h, .inr (by decide)⟩
    · exact ⟨0, 0, 12, h, .inr (by decide)⟩
  rw [hr]
  have HCs := Lib.hid hcases
  clear hcases hr
  go_upto_region 14 with (fail)
  go_cut [90] (fun s90 wx => s90 = .bool false ∧ Below w8.heap.size w8 wx)
  case first =>
    rcases HCs.out with ⟨he, hpre, h2, h4⟩ | he
    · have b0 : ((er : Int) == 0) = true := beq_iff_eq.2 (by omega)
      have hNl := num_len10 N h4
      have HNN := Lib.hid h4
      have HCut := Lib.hid (HR8.out.take (n := k) (by omega))
      have HEq := Lib.hid (show (num N == b.take k) = true by rw [beq_iff_eq]; exact hpre)
      clear hpre h4 he
      have HCW := Lib.hid (keep_cut HCut.out hsz8)
      go_region_with (first
        | (go_at_call 25; refine (number_any (.slice none 0 0) [] N 0 _ HNN.out (Rd.none_ _ _) (Nat.zero_le _) (by simp)).mono ?_; rintro e wn ⟨vN, rfl, hownN, hbN⟩)
        | (go_at_call 20
           refine (same_any _ _ (num N) (b.take k) wn.heap.size w.heap.size true _ ?_ ?_ HEq.out).mono ?_
           · exact hownN.rd (by simp; omega)
           · exact HCW.out _ _ (by exact rfl) hbN
           rintro e wm ⟨rfl, rfl⟩))
      all_goals (go_wp2_with fail; go_meet; exact ⟨rfl, Below.trans (by exact below_heap (Below.refl w8.heap.size w8) rfl rfl rfl rfl) hbN⟩)
    · have b0 : ((er : Int) == 0) = false := beq_eq_false_iff_ne.2 (by omega)
      clear he
      go_quiet (fail)
      go_wp2_with fail
      go_meet
      exact ⟨rfl, below_drewN (Below.refl _ _) nq⟩
  case rest =>
    obtain ⟨rfl, hbc⟩ := hcut
    have HBq := Lib.hid (HB8.out.trans (hbc.mono hsz8))
    have HRt := Lib.hid (HR.out.below HBq.out)
    have HTt := Lib.hid (HT.out.under HBq.out HT.out.two)
    have hszt := HBq.out.size
    clear hbc
    go_wp2_with fail
    refine (readFrame_any _ b w.heap.size _ HRt.out hszt HTt.out).mono ?_
    rintro e wf ⟨vz, rfl, hrz, _, hbz⟩
    have HBz := Lib.hid (HBq.out.trans (hbz.mono hszt))
    have HRz := Lib.hid (HR.out.below HBz.out)
    have HTz := Lib.hid (HT.out.under HBz.out HT.out.two)
    have hszz := HBz.out.size
    clear hbz
    rcases rdFrame_form b with ⟨m, kf, hrf, h5, hnf, hqf, _⟩ | ⟨ef, hrf, he⟩
    · rw [hrf] at hrz ⊢
      have hpre := rdFrame_back b m kf hrf
      have HZ := Lib.hid hrz
      have HCut := Lib.hid (HRz.out.take (n := kf) (by omega))
      have HEq := Lib.hid (show (frame m == b.take kf) = true by rw [beq_iff_eq]; exact hpre)
      have hml : m.length ≤ 65536 := by omega
      have hfm := frame_length m (by omega)
      clear hrz hpre hrf
      have HCW := Lib.hid (keep_cut HCut.out hszz)
      go_wp2_with fail
      go_region_with (first
        | (go_at_call 30; refine (frame_any _ m wf.heap.size _ (by exact HZ.out.heap rfl) (by simp) (by exact HTz.out.heap rfl) (by omega)).mono ?_; rintro e wg ⟨vg, rfl, howng, hbg⟩)
        | (go_at_call 20
           refine (same_any _ _ (frame m) (b.take kf) wg.heap.size w.heap.size true _ ?_ ?_ HEq.out).mono ?_
           · exact howng.rd (by omega)
           · exact HCW.out _ _ (by exact rfl) hbg
           rintro e wh ⟨rfl, rfl⟩))
      all_goals (go_wp2_with fail; go_ret; exact ⟨rfl, HBz.out.trans (Below.trans (by exact below_heap (Below.refl w.heap.size wf) rfl rfl rfl rfl) (hbg.mono (B' := w.heap.size) (by simp; omega)))⟩)
    · rw [hrf]
      have b1 : ((ef : Int) != 0) = true := by rw [bne_iff_ne]; omega
      clear hrz hrf he
      go_wp2_with fail
      go_quiet (fail)
      go_wp2_with fail
      go_ret
      exact ⟨rfl, below_drewN HBz.out nq⟩
end Go.Proofs.YtjhafhfneedmjaaDoor
