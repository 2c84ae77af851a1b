/-
  The walk over glacierref7.Open.
-/
import Derived.Test.YtagehnclkneolaaGreatDoorGUd
namespace Go.Proofs.YtagehnclkneolaaGreatDoor
open Go.RowKit

theorem refFrame_new (w : World) (u : Value) (m : List UInt8) (hu : By w (fun k => k < w.heap.size) u m) (hlen : m.length ≤ 140737488354000) :
    Calls Tryz.prog 32 #[.slice none 0 0, u] w fun e w' => ∃ v', e = .returned v' ∧ Own w' w.heap.size v' (frame m) ∧ Below w.heap.size w w' := by
  refine (refFrame_only (.slice none 0 0) u [] m w.heap.size (fun k => k < w.heap.size) w (own_nil _ _) hu (fun k hk => by simp [Value.ownBlock] at hk) (fun _ h => h) (Nat.le_refl _) (by simp; omega)).mono ?_
  rintro e w' ⟨v', rfl, ho, hon⟩
  rw [List.nil_append] at ho
  exact ⟨v', rfl, ho, hon.below (own_nil w w.heap.size) (Nat.le_refl _)⟩

set_option maxRecDepth 100000 in
set_option maxHeartbeats 4000000 in
theorem refOpen_any (w : World) (q : Option Addr) (c : Nat) (b : List UInt8) (B : Nat) (h : Rd w B (.slice q b.length c) b) (hB : B ≤ w.heap.size) (hb40 : b.length ≤ 1073741824) :
    Calls Tryz.prog 22 #[.slice q b.length c] w fun x w' => ROpenT w b x w' ∧ Below w.heap.size w w' := by
  have HR := Lib.hid h
  by_cases h28 : b.length < 28
  · have d1 : decide ((b.length : Int) < 28) = true := decide_eq_true (by omega)
    have d1n : decide (b.length < 28) = true := decide_eq_true (by omega)
    have HO : Hid (opnP b = .inl (0, 11)) := Lib.hid (by unfold opnP; rw [if_pos h28])
    clear h h28
    go_enter Tryz.func22, Tryz.ntmps22
    go_wp2_with fail
    go_ret3
    exact ⟨.inl ⟨0, 11, HO.out, rfl⟩, Below.refl _ _⟩
  · obtain ⟨en, hen⟩ : ∃ en, b.length - 28 = en := ⟨_, rfl⟩
    have d0 : decide ((b.length : Int) < 28) = false := decide_eq_false (by omega)
    have d0n : decide (b.length < 28) = false := decide_eq_false (by omega)
    have hw1 : IntKind.i64.wrap ((b.length : Int) - 28) = (en : Int) := by rw [IntWalk.i64_in _ (by omega)]; omega
    have hw2 : (b.length : Int) - 28 = (en : Int) := by omega
    have HW2 := Lib.hid hw2
    obtain ⟨pf, cf, hrf, hsf⟩ := tail_run (n := en) h (by omega)
    rw [show b.length - en = 28 by omega] at hrf hsf
    have hft : b.drop en = ftOf b := by unfold ftOf; rw [hen]
    rw [hft] at hrf
    have hfl : (ftOf b).length = 28 := by rw [← hft, List.length_drop]; omega
    have H28 := Lib.hid (show 28 ≤ b.length by omega)
    have hc28 : 28 ≤ cf := by obtain ⟨_, _, e, h1, _⟩ := hrf; rw [hfl] at e h1; injection e with _ _ e; omega
    have hrd : Rd w B (.slice pf (ftOf b).length cf) (ftOf b) := by rw [hfl]; exact hrf
    obtain ⟨pa, ca, hra, hsa⟩ := tail_run (n := 24) hrd (by omega)
    obtain ⟨pb, cb, hrb, hsb⟩ := tail_run (n := 8) hrd (by omega)
    obtain ⟨pc, cc, hrc, hsc⟩ := tail_run (n := 16) hrd (by omega)
    rw [hfl] at hsa hsb hsc hra hrb hrc
    have htk24 : Rd w B (.slice pf 24 cf) ((ftOf b).take 24) := Rd.take hrd (by omega)
    have hs24 : ∀ W, (Instr.slice 22 (.slice pf 28 cf) none (some (.int .i64 24)) none).run Tryz.prog W = .ok (.slice pf 24 cf) W := fun W => slByte.run_h (n := 28) (k := 24) W pf cf (by omega) hc28
    have hsa' : ∀ W, (Instr.slice 22 (.slice pf 28 cf) (some (.int .i64 24)) none none).run Tryz.prog W = .ok (.slice pa 4 ca) W := hsa
    have hsb' : ∀ W, (Instr.slice 22 (.slice pf 28 cf) (some (.int .i64 8)) none none).run Tryz.prog W = .ok (.slice pb 20 cb) W := hsb
    have hsc' : ∀ W, (Instr.slice 22 (.slice pf 28 cf) (some (.int .i64 16)) none none).run Tryz.prog W = .ok (.slice pc 12 cc) W := hsc
    have HS := Lib.hid (fun (n : Nat) => refSum_any (.slice pf 24 cf) ((ftOf b).take 24) B (w.drewN n) (htk24.drewN n))
    have HF4 := Lib.hid (fun (n : Nat) => refReadFour_any (.slice pa 4 ca) ((ftOf b).drop 24) B (w.drewN n) (hra.drewN n) (by rw [List.length_drop]; omega))
    have HI8 : Hid (∀ n : Nat, Calls Tryz.prog 44 #[.slice pf 28 cf] (w.drewN n) fun e w' => e = .returned (.int .i64 (r8 (fI (ftOf b)))) ∧ w.drewN n = w') := Lib.hid (fun n => read8_any _ (ftOf b) B (w.drewN n) (hrf.drewN n) (by omega))
    have HF8 : Hid (∀ n : Nat, Calls Tryz.prog 44 #[.slice pb 20 cb] (w.drewN n) fun e w' => e = .returned (.int .i64 (r8 (fF (ftOf b)))) ∧ w.drewN n = w') := Lib.hid (fun n => read8_any _ ((ftOf b).drop 8) B (w.drewN n) (hrb.drewN n) (by rw [List.length_drop]; omega))
    have HC8 : Hid (∀ W : World, Below w.heap.size w W → Calls Tryz.prog 44 #[.slice pc 12 cc] W fun e w' => e = .returned (.int .i64 (r8 (fC (ftOf b)))) ∧ W = w') := Lib.hid (fun W hW => read8_any _ ((ftOf b).drop 16) B W (hrc.under hW hB) (by rw [List.length_drop]; omega))
    have HEr := Lib.hid (fun (h0 : ftE (ftOf b) en ≠ 0) => (by have := @opnP_ft b H28.out (by rw [hen]; exact h0); rwa [hen] at this : opnP b = .inl (en, ftE (ftOf b) en)))
    have H13 := Lib.hid (fun (h0 : crc ((ftOf b).take 24) ≠ unfour ((ftOf b).drop 24)) => (ftE_13 (en := en) h0))
    have H14 := Lib.hid (fun (h0 : crc ((ftOf b).take 24) = unfour ((ftOf b).drop 24)) h2 => (ftE_14 (en := en) h0 h2))
    have H00 := Lib.hid (fun (h0 : crc ((ftOf b).take 24) = unfour ((ftOf b).drop 24)) h2 => (ftE_0 (en := en) h0 h2))
    have hways := r8_ways (fI (ftOf b)) (fF (ftOf b)) en (by omega)
    have HCnt8 := Lib.hid (fun (n : Nat) (hn : n ≤ 1099511627776) => r8_count (fC (ftOf b)) n hn)
    have HBad := Lib.hid (fun (h0 : ftE (ftOf b) en = 0) (at_ : Nat) => @opnP_bad b at_ H28.out (by rw [hen]; exact h0))
    have HIdx := Lib.hid (fun (h0 : ftE (ftOf b) en = 0) (L : List Ent) (bks : List TBk) => @opnP_idx b L bks H28.out (by rw [hen]; exact h0))
    have HFil := Lib.hid (fun (h0 : ftE (ftOf b) en = 0) (L : List Ent) (bks : List TBk) => @opnP_fil b L bks H28.out (by rw [hen]; exact h0))
    have HCnt := Lib.hid (fun (h0 : ftE (ftOf b) en = 0) (L : List Ent) (bks : List TBk) => @opnP_cnt b L bks H28.out (by rw [hen]; exact h0))
    have HOk := Lib.hid (fun (h0 : ftE (ftOf b) en = 0) (L : List Ent) (bks : List TBk) => @opnP_ok b L bks H28.out (by rw [hen]; exact h0))
    rw [hen] at HFil HCnt HOk
    have HEn := Lib.hid hen
    generalize fI (ftOf b) = one at *
    generalize fF (ftOf b) = two at *
    generalize fC (ftOf b) = cnt at *
    generalize ftE (ftOf b) en = fe at *
    generalize unfour ((ftOf b).drop 24) = U at *
    obtain ⟨C, hC⟩ : ∃ C, crc ((ftOf b).take 24) = C := ⟨_, rfl⟩
    rw [hC] at HS H13 H14 H00
    clear h h28 hrf hrd hft hfl hra hrb hrc htk24 hsa hsb hsc hw2 hC hen
    obtain ⟨ox, hox⟩ : ∃ ox, r8 one = ox := ⟨_, rfl⟩
    obtain ⟨tx, htx⟩ : ∃ tx, r8 two = tx := ⟨_, rfl⟩
    rw [hox, htx] at hways
    rw [hox] at HI8
    rw [htx] at HF8
    clear hox htx
    by_cases hcu : C = U
    · subst hcu
      have b1 : ((C : Int) != (C : Int)) = false := by simp
      have H14a := Lib.hid (fun h2 => HEr.out (by rw [H14.out rfl h2]; decide))
      have H14b := Lib.hid (fun h2 => H14.out rfl h2)
      have H00a := Lib.hid (fun h2 => H00.out rfl h2)
      clear H13 H14 H00 HEr
      have HNo : Hid ((two ≤ one ∨ en ≤ two) → opnP b = .inl (en, 14)) := Lib.hid (fun h2 => by rw [H14a.out h2, H14b.out h2])
      clear H14a H14b
      have HWays := Lib.hid hways
      clear hways
      go_enter Tryz.func22, Tryz.ntmps22
      go_wp2_with fail
      go_quiet (first | (go_at_call 42; exact q_same (HS.out _)) | (go_at_call 43; exact q_drew (HF4.out _)))
      go_wp2_with fail
      refine (HI8.out _).mono ?_
      rintro x w1 ⟨rfl, rfl⟩
      go_wp2_with fail
      refine (HF8.out _).mono ?_
      rintro x w1 ⟨rfl, rfl⟩
      rcases HWays.out with ⟨rfl, hw⟩ | ⟨rfl, h40, rfl, hw⟩ | ⟨rfl, rfl, h40, h41⟩
      · have HOp := Lib.hid (HNo.out hw)
        have d5 : decide ((-1 : Int) < 0) = true := by decide
        clear hw
        go_wp2_with fail
        go_ret3
        exact ⟨.inl ⟨en, 14, HOp.out, rfl⟩, below_drewN (Below.refl _ _) _⟩
      · have HOp := Lib.hid (HNo.out hw)
        have d5 : decide ((one : Int) < 0) = false := decide_eq_false (by omega)
        have d6 : decide ((-1 : Int) < 0) = true := by decide
        clear hw
        go_wp2_with fail
        go_ret3
        exact ⟨.inl ⟨en, 14, HOp.out, rfl⟩, below_drewN (Below.refl _ _) _⟩
      · have d5 : decide ((one : Int) < 0) = false := decide_eq_false (by omega)
        have d6 : decide ((two : Int) < 0) = false := decide_eq_false (by omega)
        by_cases hw : two ≤ one ∨ en ≤ two
        · have HOp := Lib.hid (HNo.out hw)
          by_cases h1 : two ≤ one
          · have d7 : decide ((two : Int) ≤ (one : Int)) = true := decide_eq_true (by omega)
            have d7n : decide (two ≤ one) = true := decide_eq_true h1
            clear hw h1
            go_wp2_with fail
            go_ret3
            exact ⟨.inl ⟨en, 14, HOp.out, rfl⟩, below_drewN (Below.refl _ _) _⟩
          · have d7 : decide ((two : Int) ≤ (one : Int)) = false := decide_eq_false (by omega)
            have d7n : decide (two ≤ one) = false := decide_eq_false h1
            have d8 : decide ((en : Int) ≤ (two : Int)) = true := decide_eq_true (by omega)
            have d8n : decide (en ≤ two) = true := decide_eq_true (by omega)
            clear hw h1
            go_wp2_with fail
            go_ret3
            exact ⟨.inl ⟨en, 14, HOp.out, rfl⟩, below_drewN (Below.refl _ _) _⟩
        · have hfe := H00a.out hw
          have hEn := HEn.out
          have d7 : decide ((two : Int) ≤ (one : Int)) = false := decide_eq_false (by omega)
          have d7n : decide (two ≤ one) = false := decide_eq_false (by omega)
          have d8 : decide ((en : Int) ≤ (two : Int)) = false := decide_eq_false (by omega)
          have d8n : decide (en ≤ two) = false := decide_eq_false (by omega)
          obtain ⟨ho1, ho2, hol, htl⟩ : one < two ∧ two < en ∧ one ≤ b.length ∧ en ≤ b.length := by omega
          have HBad1 := Lib.hid (HBad.out hfe)
          have HIdx0 := Lib.hid (HIdx.out hfe)
          have HFil0 := Lib.hid (HFil.out hfe)
          have HCnt0 := Lib.hid (HCnt.out hfe)
          have HOk0 := Lib.hid (HOk.out hfe)
          have HStart : Hid (∀ n : Nat, RoJ w b one w.heap.size ((w.drewN n).alloc (.cells #[.slice none 0 0, .slice none 0 0, .slice none 0 0] 46)) 0 [] [] none 0 [] none 0) := Lib.hid (fun n => ⟨by exact heap_alloc_new (w.drewN n) _, EnR.nil _ _, World.ownsRow_nil _ _ _ _, Nat.le_refl _, (below_drewN (Below.refl _ _) n).alloc (by simp) _, rfl, by omega, rfl, by simp [wgt], fun e he => by simp at he, by simp [idxR], by simp, fun x hx => by simp at hx⟩)
          clear hw hfe HNo HBad HIdx HFil HCnt HOk H00a HWays HI8 HF8 HS HF4 hEn b1
          go_wp2_with fail
          go_loopw [10] (fun i wr => ∃ (a : Nat) (L : List Ent) (bks : List TBk) (pe : Option Addr) (ce : Nat) (us : List Value) (pk : Option Addr) (ck : Nat), i = .int .i64 (a : Int) ∧ RoJ w b one w.heap.size wr a L bks pe ce us pk ck) (fun i _ => one - (intOf i).toNat)
          case atStart => exact ⟨0, [], [], none, 0, [], none, 0, rfl, HStart.out _⟩
          case round =>
            obtain ⟨a, L, bks, pe, ce, us, pk, ck, rfl, hJ⟩ := hrel
            generalize wr = wz at *
            have HJ := Lib.hid hJ
            have hal := hJ.le
            have hbs := hJ.bel.size
            have k0 := cell_of (i := 0) hJ.tbl rfl
            have HRz := Lib.hid (HR.out.under hJ.bel hB)
            clear HStart d5 d6 d7 d7n d8 d8n
            by_cases hlt : a < one
            · have d3 : decide ((a : Int) < (one : Int)) = true := decide_eq_true (by omega)
              have d3n : decide (a < one) = true := decide_eq_true hlt
              obtain ⟨p3, c3, hr3, hs3⟩ := cut_run (n := a) (m := one - a) HRz.out (by omega)
              rw [show (a : Int) + ((one - a : Nat) : Int) = (one : Int) by omega] at hs3
              rw [← List.drop_take] at hr3
              have hdl : ((b.take one).drop a).length = one - a := by rw [List.length_drop, List.length_take]; omega
              have HDl := Lib.hid hdl
              have hr0 : (b.take one).drop a ≠ [] := fun hn => by have := congrArg List.length hn; rw [hdl, List.length_nil] at this; omega
              have HC := Lib.hid (refReadFrame_any _ ((b.take one).drop a) B wz hr3)
              have hform := rdFrame_form ((b.take one).drop a)
              have HNone : Hid (blkP ((b.take one).drop a) L = none → opnP b = .inl (a, 14)) := Lib.hid (fun hn => HBad1.out a (by rw [HJ.out.op, opA_none hr0 hn]))
              have hwg := hJ.wg
              have HEt := Lib.hid (fun (m : Nat) (v : Value) (p : List UInt8) (hv : Rd wz B v p) (hp : p.length ≤ 67108864) => refEntries_any (wz.drewN m) w.heap.size B v p pe ce us L (hv.drewN m) hB (hJ.en.keep (fun _ _ => rfl) (fun _ _ _ _ => rfl)) hbs hJ.rt hp (by omega))
              have HSt := Lib.hid (fun (w1 W w3 : World) (n : Nat) (es : List Ent) (pe' pk' : Option Addr) (ce' ck' : Nat) (us' : List Value) => @RoJ.step w wz w1 W w3 b one w.heap.size a n L es bks pe pe' pk pk' ce ce' ck ck' us us' hJ hlt hol (by omega))
              clear hr3 hJ hr0 hdl hwg
              rcases hform with ⟨p, n, hf, h5, hnl, hpn, hp26⟩ | ⟨e, hf, he⟩
              · rw [hf] at HC
                have HBn : Hid (∀ o, entR p L = o → blkP ((b.take one).drop a) L = o.map (fun es => (n, es))) := Lib.hid (fun o ho => by rw [blkP_entR hf, ho])
                clear hf
                go_wp2_with fail
                refine HC.out.mono ?_
                rintro x w1 ⟨v1, rfl, hv1, m1, rfl⟩
                have HE1 := Lib.hid (HEt.out m1 v1 p hv1 hp26)
                obtain ⟨q1, c1, rfl⟩ := bytes_val hv1
                clear hv1 HC HEt
                go_wp2_with fail
                refine HE1.out.mono ?_
                rintro x w1 ⟨het, hfr⟩
                replace hfr : Fr (fun k => (Value.slice pe L.length ce).ownBlock = some k) wz w1 := ⟨hfr.os, hfr.tape, hfr.output, hfr.size, hfr.block⟩
                rcases het with ⟨hno, rfl⟩ | ⟨es, pe', ce', us', hyes, rfl, hen, hwg', hsq'⟩
                · have HOp := Lib.hid (HNone.out (HBn.out _ hno))
                  have HBe := Lib.hid (HJ.out.bel.trans (hfr.below hbs (fun k hk e => by have := row_low HJ.out.en.row k e; omega)))
                  clear hno hfr HE1
                  go_wp2_with fail
                  go_ret3
                  exact ⟨.inl ⟨a, 14, HOp.out, rfl⟩, HBe.out⟩
                · have hbp := HBn.out _ hyes
                  simp only [Option.map_some] at hbp
                  obtain ⟨n5, hnl2, hne, hrt2, hwg2, hsq2⟩ := blkP_some hbp
                  have hnle : n ≤ one - a := by rw [HDl.out] at hnl2; exact hnl2
                  clear hnl2
                  have HStp := Lib.hid (fun (W w3 : World) (pk' : Option Addr) (ck' : Nat) => HSt.out w1 W w3 n es pe' pk' ce' ck' us' hbp hen hfr)
                  have hwl : wgt (L ++ es) ≤ 68719476736 := by rw [wgt_append]; have := HJ.out.wg; omega
                  have hll := wgt_len (L ++ es)
                  have hes := List.length_pos_iff.2 hne
                  have HLn : Hid (L.length < (L ++ es).length) := Lib.hid (by rw [List.length_append]; omega)
                  have ht1 := hfr.keep HJ.out.tbl (HJ.out.en.ne_kind HJ.out.tbl (by decide) (by decide)).1
                  have f0 := frozen_of (i := 0) ht1
                  have f0c := cell_of (i := 0) ht1 rfl
                  have hkey : ((L ++ es)[L.length]'HLn.out).key = hdK es := by
                    rw [List.getElem_append_right (Nat.le_refl _)]
                    cases es with
                    | nil => simp at hes
                    | cons x r => simp [hdK]
                  obtain ⟨V, hV⟩ : ∃ V, w1.setCell ⟨w.heap.size, 0, none⟩ (.slice pe' (L ++ es).length ce') = V := ⟨_, rfl⟩
                  have htV : V.heap[w.heap.size]? = some (.cells #[.slice pe' (L ++ es).length ce', .slice pk bks.length ck, .slice none 0 0] 46 (0, 0)) := by rw [← hV]; simpa using setCell_same (off := 0) ht1 (.slice pe' (L ++ es).length ce')
                  have hfV : Fr (fun k => k = w.heap.size) w1 V := by rw [← hV]; exact Fr.setCell (fun k => k = w.heap.size) w1 (p := ⟨w.heap.size, 0, none⟩) rfl _
                  have hVs : V.heap.size = w1.heap.size := by rw [← hV]; simp [World.setCell]
                  obtain ⟨W, hW⟩ : ∃ W, V.drew.alloc (.cells #[.int .i64 (a : Int), .int .i64 (n : Int), .string ⟨(hdK es).toArray⟩] 76) = W := ⟨_, rfl⟩
                  have hbW : Below V.heap.size V W := by rw [← hW]; exact (below_drew (Below.refl _ _)).alloc (Nat.le_refl _) _
                  have htW := (hbW.block _ (block_lt htV)).trans htV
                  have heV := hen.step hfV (fun k hk e => (hen.ne_kind ht1 (by decide) (by decide)).1 (e ▸ hk)) (fun u hu k hk e => (hen.ne_kind ht1 (by decide) (by decide)).2 u hu (e ▸ hk))
                  have HEnU : Hid (En V (fun k => w.heap.size ≤ k) (.slice pe' (L ++ es).length ce') (L ++ es)) := Lib.hid ⟨us', heV.len47 (fun e he => by have := wgt_mem (L ++ es) e he; omega) (by omega)⟩
                  obtain ⟨bh, oh, qh, ch, hph, hbh, g1, g2, e0, g3, g4, g5⟩ := HEnU.out.at_ (k := L.length) (e := (L ++ es)[L.length]'HLn.out) (List.getElem?_eq_getElem _)
                  rw [hkey] at e0
                  clear g1 g2 g3 g4 g5
                  subst hph
                  have hln : ((L.length : Nat) : Int) < ((L ++ es).length : Int) := by have := HLn.out; omega
                  have hln2 : L.length < (L ++ es).length := HLn.out
                  have HRow : Hid (W.ownsRow w.heap.size 76 3 (.slice pk bks.length ck) bks.length (cellsBk bks)) := Lib.hid (row_keep HJ.out.row fun j hj => by
                    obtain ⟨cur, hc⟩ := row_heap HJ.out.row hj
                    have h2 := hfr.keep hc (HJ.out.en.ne_kind hc (by decide) (by decide)).1
                    have h3 := hfV.keep h2 (fun e => kind_ne ht1 h2 (by decide) e.symm)
                    have h4 := (hbW.block _ (block_lt h3)).trans h3
                    rw [h4, hc])
                  have HCl : Hid (Cl W (fun j => j = V.heap.size) (.slice (some ⟨V.heap.size, 0, none⟩) 1 1) 1 (bkV ⟨a, n, hdK es⟩)) := Lib.hid (by
                    rw [← hW]
                    exact Cl.new V.drew (fun j => j = V.heap.size) 1 (bkV ⟨a, n, hdK es⟩) _ _ rfl (by omega) rfl)
                  have HOne := Lib.hid (bkV_one ⟨a, n, hdK es⟩)
                  have hnb := HJ.out.nb
                  have HLn3 : Hid (bks.length + 1 ≤ 68719476736) := Lib.hid (by omega)
                  have HSz : Hid (w.heap.size ≤ W.heap.size) := Lib.hid (by have h1 := hfr.size; have h2 := hbW.size; omega)
                  have HPut : Hid (∀ (w3 : World) (pk' : Option Addr) (ck' : Nat), w3.ownsRow w.heap.size 76 3 (.slice pk' (bks.length + 1) ck') (bks.length + 1) (cellsBk bks ++ bkV ⟨a, n, hdK es⟩) → W.grownBy w3 (Value.slice pk bks.length ck).ownBlock →
                      RoJ w b one w.heap.size (w3.setCell ⟨w.heap.size, 1, none⟩ (.slice pk' (bks.length + 1) ck')) (a + n) (L ++ es) (bks ++ [⟨a, n, hdK es⟩]) (some ⟨bh, oh, none⟩) ce' us' pk' ck' ∧ 0 < n) := Lib.hid (fun w3 pk' ck' ho hg => HStp.out W w3 pk' ck' (by rw [hV, ← hVs]; exact hbW) ho hg)
                  have HtW := Lib.hid htW
                  have k1 := cell_of (i := 1) htV rfl
                  have kW := cell_of (i := 1) htW rfl
                  have zq := frozen_of (i := 1) htV
                  have zW := frozen_of (i := 1) htW
                  clear hkey htV hfV hVs hbW htW heV hen hne hrt2 hwg2 hsq2 hwg' hsq' hyes hbp HStp HSt HE1 HEnU hwl hll hes hfr HBn HNone ht1 hnb
                  generalize (L ++ es).length = n2 at *
                  go_wp2_with fail
                  go_upto_region 22 with (fail)
                  go_region_law
                    (refine slBk.step_append rfl (.tmp 98) (.tmp 107) rfl w.heap.size (v := .slice pk bks.length ck) (u := .slice (some ⟨V.heap.size, 0, none⟩) 1 1) rfl rfl HRow.out HCl.out rfl HOne.out HLn3.out HSz.out ?_
                     intro v' w3 ho3 hg3 ha3
                     obtain ⟨pk', ck', rfl, _, _⟩ := row_shape ho3
                     have ht3 : w3.heap[w.heap.size]? = _ := (hg3.block _ (block_lt HtW.out) (fun e => by
                       obtain ⟨cur, hc⟩ := row_heap HRow.out e.symm
                       exact kind_ne HtW.out hc (by decide) rfl)).trans HtW.out
                     have n0 := cell_of (i := 1) ht3 rfl
                     have z3 := frozen_of (i := 1) ht3
                     have HQ3 := Lib.hid (HPut.out w3 pk' ck' ho3 hg3)
                     clear ho3 hg3 ha3 ht3)
                  all_goals
                    go_wp2_with fail
                    go_roundw
                    case measure => have := HQ3.out.2; simp [intOf]; omega
                    case rel => exact ⟨a + n, L ++ es, bks ++ [⟨a, n, hdK es⟩], _, ce', us', pk', ck', by go_num, HQ3.out.1⟩
              · rw [hf] at HC
                have HOp := Lib.hid (HNone.out (blkP_frame hf (by omega)))
                have e0 : ((e : Int) != 0) = true := by rw [bne_iff_ne]; omega
                clear hf he HEt HSt HNone
                go_wp2_with fail
                refine HC.out.mono ?_
                rintro x w1 ⟨v1, rfl, _, m1, rfl⟩
                go_wp2_with fail
                go_ret3
                exact ⟨.inl ⟨a, 14, HOp.out, rfl⟩, below_drewN HJ.out.bel _⟩
            · obtain rfl : a = one := by omega
              have d3 : decide ((a : Int) < (a : Int)) = false := by simp
              have hop : opA (b.take a) 0 [] [] = .inr (L, bks) := by
                rw [hJ.op]
                have : (b.take a).drop a = [] := List.eq_nil_of_length_eq_zero (by rw [List.length_drop, List.length_take]; omega)
                rw [this, opA_nil]
              have HIdx1 := Lib.hid (HIdx0.out L bks hop)
              have HFil1 := Lib.hid (HFil0.out L bks hop)
              have HCnt1 := Lib.hid (HCnt0.out L bks hop)
              have HOk1 := Lib.hid (HOk0.out L bks hop)
              have hwg := hJ.wg
              have hro := hJ.ro
              have hnb := hJ.nb
              have hsl : ShL L := ⟨hJ.sq, by omega⟩
              have hfb := filB_len hsl
              have hll : L.length ≤ 1099511627776 := by have := wgt_len L; omega
              have HEnU : Hid (En wz (fun k => w.heap.size ≤ k) (.slice pe L.length ce) L) := Lib.hid ⟨us, hJ.en.len47 (fun e he => by have := wgt_mem L e he; omega) (by omega)⟩
              have hBk : BkM wz (fun _ => True) (.slice pk bks.length ck) bks := Cl.of_own hJ.row (by omega) (fun _ _ => trivial) (cellsBk_len _)
              have hbk : ∀ x ∈ bks, x.at_ < 4611686018427387904 ∧ x.len < 4611686018427387904 := fun x hx => by have := hJ.bk x hx; omega
              have HIx := Lib.hid (fun (W : World) (hW : Below wz.heap.size wz W) => refIndex_any W (fun _ => True) pk ck bks (Cl.below hBk hW) hbk (by omega))
              have HFlt := Lib.hid (fun (W : World) (hW : Below wz.heap.size wz W) => refFilter_any W _ pe ce L (HEnU.out.below hW) hsl)
              have k1 := cell_of (i := 1) hJ.tbl rfl
              obtain ⟨p4, c4, hr4, hs4⟩ := cut_run (n := a) (m := two - a) HRz.out (by omega)
              rw [show (a : Int) + ((two - a : Nat) : Int) = (two : Int) by omega] at hs4
              have HR4 := Lib.hid hr4
              obtain ⟨I, hI⟩ : ∃ I, frame (idxR bks) = I := ⟨_, rfl⟩
              have hIl := (frame_length (idxR bks) (by omega)).1
              rw [hI] at hIl
              have HFrI : Hid (∀ (wf W : World) (iv : Value), Own wf 0 iv (idxR bks) → Below wz.heap.size wz wf → W.heap = wf.heap → W.os = wf.os → W.tape = wf.tape → W.output = wf.output →
                  Calls Tryz.prog 32 #[.slice none 0 0, iv] W fun x wg => ∃ fv, x = .returned fv ∧ Rd wg wg.heap.size fv I ∧ Below wz.heap.size wz wg) := Lib.hid (fun wf W iv ho hb h1 h2 h3 h4 => by
                have hoW : Own W 0 iv (idxR bks) := ho.keep (fun j _ => by rw [h1])
                refine (refFrame_new W iv (idxR bks) (By.of_own hoW (by omega) (fun j hj => (World.ownsRow.lt hoW j hj).2)) (by omega)).mono ?_
                rintro x wg ⟨fv, rfl, hof, hbf⟩
                rw [hI] at hof
                have hbW : Below wz.heap.size wz W := below_heap hb h1 h2 h3 h4
                exact ⟨fv, rfl, hof.rd (by omega), hbW.trans (hbf.mono hbW.size)⟩)
              rw [hI] at HIdx1 HFil1 HCnt1 HOk1
              have HBz := Lib.hid hJ.bel
              clear hJ hop hsl hBk hbk hr4 hI HIdx0 HFil0 HCnt0 HOk0 HBad1 hlt k0
              go_wp2_with fail
              go_upto_region 24 with (fail)
              go_cut [125] (fun v wx => v = .bool (!((b.drop a).take (two - a) == I)) ∧ Below wz.heap.size wz wx)
              case first =>
                go_region_with (first
                  | (go_at_call 48
                     refine (HIx.out _ (by exact below_heap (Below.refl _ wz) rfl rfl rfl rfl)).mono ?_
                     rintro x wf ⟨iv, rfl, howni, hbi⟩
                     have HOi : Hid (Own wf 0 iv (idxR bks)) := Lib.hid (howni.more (Nat.zero_le _))
                     have HBi : Hid (Below wz.heap.size wz wf) := Lib.hid (Below.trans (by exact below_heap (Below.refl _ wz) rfl rfl rfl rfl) hbi)
                     clear howni hbi)
                  | (go_at_call 32
                     refine (HFrI.out _ _ _ HOi.out HBi.out (by rfl) (by rfl) (by rfl) (by rfl)).mono ?_
                     rintro x wg ⟨fv, rfl, hrg, hbg⟩
                     have HRg := Lib.hid hrg
                     have HBg := Lib.hid hbg
                     clear hrg hbg)
                  | (go_at_call 47
                     refine (same7_any _ _ ((b.drop a).take (two - a)) I B _ _ (by exact (HR4.out.under HBg.out (by omega)).heap rfl) (by exact HRg.out.heap rfl)).mono ?_
                     rintro x wh ⟨rfl, rfl⟩))
                all_goals
                  go_wp2_with fail
                  go_meet
                  exact ⟨rfl, HBg.out⟩
              case rest =>
                obtain ⟨rfl, hbc⟩ := hcut
                generalize wc = wk at *
                have hJ3 := HJ.out
                have hbk := hbc.size
                have htk := (hbc.block _ (block_lt hJ3.tbl)).trans hJ3.tbl
                have HBk : Hid (Below w.heap.size w wk) := Lib.hid (HBz.out.trans (hbc.mono hbs))
                have Htk := Lib.hid htk
                have HFk := Lib.hid (HFlt.out wk hbc)
                have Hek := Lib.hid (hJ3.en.after hbc)
                have Hrk := Lib.hid (row_after hJ3.row hbc)
                have k0 := cell_of (i := 0) htk rfl
                clear hJ3 hbc htk HFlt hs4 k1
                cases hq1 : ((b.drop a).take (two - a) == I)
                · have hbad := Lib.hid (HIdx1.out hq1)
                  clear hq1
                  go_wp2_with fail
                  go_ret3
                  exact ⟨.inl ⟨a, 14, hbad.out, rfl⟩, HBk.out⟩
                · have HQ1 := Lib.hid hq1
                  clear hq1
                  go_wp2_with fail
                  refine HFk.out.mono ?_
                  rintro x w3 ⟨u3, rfl, hown3, hb3⟩
                  obtain ⟨qf, cfl, rfl, _, _⟩ := hown3.shp
                  have ht3 := (hb3.block _ (block_lt Htk.out)).trans Htk.out
                  have f2 := frozen_of (i := 2) ht3
                  have t2 := cell_of (i := 2) ht3 rfl
                  obtain ⟨V, hV⟩ : ∃ V, w3.setCell ⟨w.heap.size, 2, none⟩ (.slice qf (filB L).length cfl) = V := ⟨_, rfl⟩
                  have hfr : Fr (fun k => k = w.heap.size) wk V := by rw [← hV]; exact Fr.setCell_ (S := fun k => k = w.heap.size) (Fr.of_new hb3 _) (p := ⟨w.heap.size, 2, none⟩) rfl _
                  have htV : V.heap[w.heap.size]? = some (.cells #[.slice pe L.length ce, .slice pk bks.length ck, .slice qf (filB L).length cfl] 46 (0, 0)) := by rw [← hV]; simpa using setCell_same (off := 2) ht3 (.slice qf (filB L).length cfl)
                  have hlV : Own V w.heap.size (.slice qf (filB L).length cfl) (filB L) := by
                    refine (hown3.more HBk.out.size).keep fun j hj => ?_
                    rw [← hV]
                    refine setCell_other (fun e => ?_) _
                    obtain ⟨cur, hcu⟩ := hown3.heap hj
                    subst e
                    exact kind_ne hcu ht3 (by decide) rfl
                  have heV : EnR V w.heap.size (.slice pe L.length ce) L us := Hek.out.step hfr (fun k hk e => (Hek.out.ne_kind Htk.out (by decide) (by decide)).1 (e ▸ hk)) (fun u hu k hk e => (Hek.out.ne_kind Htk.out (by decide) (by decide)).2 u hu (e ▸ hk))
                  have hBV : Below w.heap.size w V := HBk.out.trans (hfr.below HBk.out.size (fun k hk e => by omega))
                  have hVs := hBV.size
                  obtain ⟨p5, c5, hr5, hs5⟩ := cut_run (n := two) (m := en - two) (HR.out.under hBV hB) (by omega)
                  rw [show (two : Int) + ((en - two : Nat) : Int) = (en : Int) by omega] at hs5
                  obtain ⟨G, hG⟩ : ∃ G, frame (filB L) = G := ⟨_, rfl⟩
                  have hGl := (frame_length (filB L) (by omega)).1
                  rw [hG] at hGl
                  have HFrG : Hid (∀ (W : World), W.heap = V.heap → W.os = V.os → W.tape = V.tape → W.output = V.output →
                      Calls Tryz.prog 32 #[.slice none 0 0, .slice qf (filB L).length cfl] W fun x wg => ∃ fv, x = .returned fv ∧ Rd wg wg.heap.size fv G ∧ Below V.heap.size V wg) := Lib.hid (fun W h1 h2 h3 h4 => by
                    have hoW : Own W w.heap.size (.slice qf (filB L).length cfl) (filB L) := hlV.keep (fun j _ => by rw [h1])
                    refine (refFrame_new W _ (filB L) (By.of_own hoW (by omega) (fun j hj => (World.ownsRow.lt hoW j hj).2)) (by omega)).mono ?_
                    rintro x wg ⟨fv, rfl, hof, hbf⟩
                    rw [hG] at hof
                    have hbW : Below V.heap.size V W := below_heap (Below.refl _ V) h1 h2 h3 h4
                    exact ⟨fv, rfl, hof.rd (by omega), hbW.trans (hbf.mono hbW.size)⟩)
                  rw [hG] at HFil1 HCnt1 HOk1
                  have HR5 := Lib.hid hr5
                  have HtV := Lib.hid htV
                  have HlV := Lib.hid hlV
                  have HeV := Lib.hid heV
                  have HBV := Lib.hid hBV
                  have k2 := cell_of (i := 2) htV rfl
                  clear hown3 hb3 ht3 hfr htV hlV heV hBV hr5 hG k0
                  go_wp2_with fail
                  go_upto_region 27 with (fail)
                  go_cut [145] (fun v wx => v = .bool (!((b.drop two).take (en - two) == G)) ∧ Below V.heap.size V wx)
                  case first =>
                    go_region_with (first
                      | (go_at_call 32
                         refine (HFrG.out _ (by rfl) (by rfl) (by rfl) (by rfl)).mono ?_
                         rintro x wg ⟨fv, rfl, hrg, hbg⟩
                         have HRg := Lib.hid hrg
                         have HBg := Lib.hid hbg
                         clear hrg hbg)
                      | (go_at_call 47
                         refine (same7_any _ _ ((b.drop two).take (en - two)) G B _ _ (by exact (HR5.out.under HBg.out (by omega)).heap rfl) (by exact HRg.out.heap rfl)).mono ?_
                         rintro x wh ⟨rfl, rfl⟩))
                    all_goals
                      go_wp2_with fail
                      go_meet
                      exact ⟨rfl, HBg.out⟩
                  case rest =>
                    obtain ⟨rfl, hbd⟩ := hcut
                    generalize wc = wd at *
                    have htd := (hbd.block _ (block_lt HtV.out)).trans HtV.out
                    have HBd : Hid (Below w.heap.size w wd) := Lib.hid (HBV.out.trans (hbd.mono HBV.out.size))
                    have Htd := Lib.hid htd
                    have Hed := Lib.hid (HeV.out.after hbd)
                    have Hld := Lib.hid (HlV.out.after hbd)
                    have s0 := cell_of (i := 0) htd rfl
                    clear hbd htd hs5 k2
                    cases hq2 : ((b.drop two).take (en - two) == G)
                    · have hbad := Lib.hid (HFil1.out HQ1.out hq2)
                      clear hq2
                      go_wp2_with fail
                      go_ret3
                      exact ⟨.inl ⟨two, 14, hbad.out, rfl⟩, HBd.out⟩
                    · have HQ2 := Lib.hid hq2
                      have hc8 := HCnt8.out L.length hll
                      have HC9 := Lib.hid (fun (n : Nat) => HC8.out (wd.drewN n) (below_drewN HBd.out n))
                      obtain ⟨cx, hcx⟩ : ∃ cx, r8 cnt = cx := ⟨_, rfl⟩
                      rw [hcx] at hc8 HC9
                      clear hq2 hcx HC8
                      by_cases hc : cnt = L.length
                      · have HOp := Lib.hid (HOk1.out HQ1.out HQ2.out hc)
                        have b1 : (cx != (L.length : Int)) = false := by rw [hc8]; simp [hc]
                        clear hc hc8
                        go_wp2_with fail
                        go_quiet ((go_at_call 44; exact q_same (HC9.out _)))
                        go_wp2_with fail
                        go_ret3
                        exact ⟨.inr ⟨L, bks, w.heap.size, HOp.out, rfl, ⟨pe, ce, us, pk, ck, qf, cfl, Htd.out, Hed.out.keep (fun _ _ => rfl) (fun _ _ _ _ => rfl), Hld.out.keep (fun _ _ => rfl)⟩⟩, below_drewN HBd.out _⟩
                      · have HOp := Lib.hid (HCnt1.out HQ1.out HQ2.out hc)
                        have b1 : (cx != (L.length : Int)) = true := by rw [hc8]; simpa using hc
                        clear hc hc8
                        go_wp2_with fail
                        go_quiet ((go_at_call 44; exact q_same (HC9.out _)))
                        go_wp2_with fail
                        go_ret3
                        exact ⟨.inl ⟨en, 14, HOp.out, rfl⟩, below_drewN HBd.out _⟩
    · have b1 : ((C : Int) != (U : Int)) = true := by rw [bne_iff_ne]; omega
      have h13 := H13.out hcu
      have HOp := Lib.hid (HEr.out (by rw [h13]; decide))
      rw [h13] at HOp
      clear hcu h13 H13 H14 H00 HEr
      go_enter Tryz.func22, Tryz.ntmps22
      go_wp2_with fail
      go_quiet (first | (go_at_call 42; exact q_same (HS.out _)) | (go_at_call 43; exact q_drew (HF4.out _)))
      go_wp2_with fail
      go_ret3
      exact ⟨.inl ⟨en, 13, HOp.out, rfl⟩, below_drewN (Below.refl _ _) _⟩
end Go.Proofs.YtagehnclkneolaaGreatDoor
