/-
  The walk over glacierlaw1.CodecReads: for any bytes and any bound the answer is true, and no memory that was there is changed.
-/
import Derived.Test.YtjhafhfneedmjaaDoorRsW
namespace Go.Proofs.YtjhafhfneedmjaaDoor
open Go.RowKit

theorem q_add {P : Program} {f : FuncId} {args : Array Value} {w : World} {a n : Nat} {v : Value}
    (h : Calls P f args (w.drewN (a + n)) fun e w' => e = .returned v ∧ w.drewN (a + n) = w') : Calls P f args (w.drewN (a + n)) fun e w'' => e = .returned v ∧ ∃ m, w'' = w.drewN (a + m) :=
  h.mono fun _ _ ⟨he, hm⟩ => ⟨he, n, hm.symm⟩

set_option maxRecDepth 100000 in
set_option maxHeartbeats 4000000 in
theorem reads_any (v : Value) (l : List UInt8) (most : Int) (w : World) (h : Rd w w.heap.size v l) (ht : Tabs w) (hm1 : -9223372036854775808 ≤ most) (hm2 : most ≤ 9223372036854775807) :
    Calls Tryd.prog 4 #[v, .int .i64 most] w fun e w' => e = .returned (.bool true) ∧ Below w.heap.size w w' := by
  have HT := Lib.hid ht
  have HR := Lib.hid h
  have HM1 := Lib.hid hm1
  have HM2 := Lib.hid hm2
  obtain ⟨p, cap, rfl, hlc, hl47, hcm, hat⟩ := h.form
  clear ht h hat hm1 hm2
  go_enter Tryd.func4, Tryd.ntmps4
  go_wp2_with fail
  refine (known_any w HT.out).mono ?_
  rintro e w1 ⟨rfl, hb1⟩
  have HR1 := Lib.hid (HR.out.below hb1)
  have HT1 := Lib.hid (HT.out.under hb1 HT.out.two)
  have HB1 := Lib.hid hb1
  have hsz1 := hb1.size
  clear hb1
  by_cases hbig : 65536 < l.length
  · have d1 : decide ((65536 : Int) < (l.length : Int)) = true := by simp; omega
    go_wp2_with fail
    go_ret
    exact ⟨rfl, HB1.out⟩
  have d1 : decide ((65536 : Int) < (l.length : Int)) = false := by simp; omega
  go_wp2_with fail
  refine (readNumber_any _ l w.heap.size w1 HR1.out).mono ?_
  rintro e w1' ⟨rfl, rfl⟩
  go_wp2_with fail
  refine (refReadNumber_any _ l w.heap.size w1 HR1.out).mono ?_
  rintro e w1' ⟨rfl, rfl⟩
  generalize (rdNum l).1 = N1 at *
  generalize (rdNum l).2.1 = N2 at *
  generalize (rdNum l).2.2 = N3 at *
  go_wp2_with fail
  refine (readBytes_any _ l most most.toNat w.heap.size w1 HR1.out hsz1 HM1.out HM2.out rfl).mono ?_
  rintro e w2 ⟨vx, rfl, hrx, hb2⟩
  have hsz2 := hb2.size
  have HB2 := Lib.hid (HB1.out.trans (hb2.mono hsz1))
  have HR2 := Lib.hid (HR.out.below HB2.out)
  have HT2 := Lib.hid (HT.out.under HB2.out HT.out.two)
  have HX := Lib.hid hrx
  clear hrx hb2
  go_wp2_with fail
  refine (refReadBytes_any _ l most most.toNat w.heap.size w2 HR2.out HM1.out HM2.out rfl).mono ?_
  rintro e w2' ⟨vy, rfl, hry, rfl⟩
  have HY := Lib.hid hry
  clear hry
  generalize (rdBytes l most.toNat).2.1 = N4 at *
  generalize (rdBytes l most.toNat).2.2 = N5 at *
  go_wp2_with fail
  refine (same_any _ _ _ _ _ _ true w2 HX.out HY.out (by simp)).mono ?_
  rintro e w2' ⟨rfl, rfl⟩
  clear HX HY
  go_wp2_with fail
  refine (readFrame_any _ l w.heap.size w2 HR2.out (by omega) HT2.out).mono ?_
  rintro e w3 ⟨vx3, rfl, hrx, _, hb3⟩
  have hsz3 := hb3.size
  have HB3 := Lib.hid (HB2.out.trans (hb3.mono (by omega)))
  have HR3 := Lib.hid (HR.out.below HB3.out)
  have HX := Lib.hid hrx
  clear hrx hb3
  go_wp2_with fail
  refine (refReadFrame_any _ l w.heap.size w3 HR3.out).mono ?_
  rintro e w4 ⟨vy4, rfl, hry, m4, rfl⟩
  have HY := Lib.hid (hry.drewN m4)
  have HX4 := Lib.hid (HX.out.drewN m4)
  have HB4 := Lib.hid (below_drewN HB3.out m4)
  have HR4 := Lib.hid (HR.out.below HB4.out)
  have HT4 := Lib.hid (HT.out.under HB4.out HT.out.two)
  clear hry
  generalize (rdFrame l).2.1 = N6 at *
  generalize (rdFrame l).2.2 = N7 at *
  go_wp2_with fail
  refine (same_any _ _ _ _ _ _ true _ HX4.out HY.out (by simp)).mono ?_
  rintro e w4' ⟨rfl, rfl⟩
  clear HX HX4 HY
  go_wp2_with fail
  refine (readFrames_any _ l w.heap.size _ HR4.out (by have := HB4.out.size; omega) HT4.out (by omega)).mono ?_
  rintro e w5 ⟨vp, rfl, hp5, hb5⟩
  have HB5 := Lib.hid (HB4.out.trans (hb5.mono (by have := HB4.out.size; omega)))
  have HR5 := Lib.hid (HR.out.below HB5.out)
  have HP5 := Lib.hid hp5
  have hsz5 := HB5.out.size
  clear hp5 hb5
  obtain ⟨pp, pc, rfl, _⟩ := id HP5.out
  go_wp2_with fail
  refine (refReadFrames_any _ l w.heap.size w5 HR5.out hsz5 (by omega)).mono ?_
  rintro e w6 ⟨vq, rfl, hq6, hb6⟩
  have HB6 := Lib.hid (HB5.out.trans (hb6.mono hsz5))
  have HP6 := Lib.hid (HP5.out.under hb6 (Nat.le_refl _))
  have HQ6 := Lib.hid hq6
  clear hq6 hb6 HP5
  obtain ⟨qp, qc, rfl, _⟩ := id HQ6.out
  generalize (rdFrames l).2.1 = N8 at *
  generalize (rdFrames l).2.2 = N9 at *
  generalize (rdFrames l).1 = ls at *
  obtain ⟨_, _, e1, hplc, hpl, hpm, hpat⟩ := HP6.out
  injection e1 with e1 _ e2
  subst e1 e2
  obtain ⟨_, _, e1, hqlc, hql, hqm, hqat⟩ := HQ6.out
  injection e1 with e1 _ e2
  subst e1 e2
  have HPA := Lib.hid hpat
  have HQA := Lib.hid hqat
  clear hpat hqat
  go_wp2_with fail
  go_loopw [15] (fun i wr => ∃ k m : Nat, i = .int .i64 (k : Int) ∧ k ≤ ls.length ∧ wr = w6.drewN m) (fun i _ => ls.length - (intOf i).toNat)
  case atStart => exact ⟨0, 0, rfl, by omega, rfl⟩
  case round =>
    obtain ⟨k, m, rfl, hk, rfl⟩ := hrel
    by_cases hlt : k < ls.length
    · obtain ⟨b, off, u, rfl, hb, hc, hr1⟩ := HPA.out k _ (List.getElem?_eq_getElem hlt)
      obtain ⟨b', off', u', rfl, hb', hc', hr2⟩ := HQA.out k _ (List.getElem?_eq_getElem hlt)
      have H1 := Lib.hid hr1
      have H2 := Lib.hid hr2
      clear hr1 hr2
      generalize ls[k] = x at *
      go_wp2_with fail
      go_quiet ((go_at_call 20; exact q_add (same_any _ _ x x _ _ true _ (H1.out.drewN _) (H2.out.drewN _) (by simp))))
      go_wp2_with fail
      go_roundw
      case rel => exact ⟨k + 1, _, by go_num, by omega, by go_num⟩
      case measure => simp [intOf]; omega
    · go_wp2_with fail
      go_ret
      exact ⟨rfl, below_drewN HB6.out m⟩
end Go.Proofs.YtjhafhfneedmjaaDoor
