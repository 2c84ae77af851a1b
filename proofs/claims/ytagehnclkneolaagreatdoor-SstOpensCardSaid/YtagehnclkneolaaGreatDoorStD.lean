/-
  The walk over sst.read.
-/
import Derived.Test.YtagehnclkneolaaGreatDoorGTa
namespace Go.Proofs.YtagehnclkneolaaGreatDoor
open Go.RowKit

/-- A table in memory: its entries, its filter, how many blocks. -/
structure TblM (w : World) (base tb : Nat) (L : List Ent) (nb : Nat) : Prop where
  out : ∃ pe ce us qf cf, w.heap[tb]? = some (.cells #[.slice pe L.length ce, .slice qf (filB L).length cf, .int .i64 (nb : Int)] 82 (0, 0)) ∧ EnR w base (.slice pe L.length ce) L us ∧ Own w base (.slice qf (filB L).length cf) (filB L)
/-- What read tells. -/
def ReadT (w : World) (b : List UInt8) (x : Ending) (w' : World) : Prop :=
  (∃ at_ e g : Nat, opnP b = .inl (at_, e) ∧ x = .returned (.tuple #[.pointer none, .pointer (some ⟨g, 0, none⟩)]) ∧ w'.heap[g]? = some (.cells #[.int .i64 (at_ : Int), .int .i64 (e : Int)] 66 (0, 0))) ∨
  (∃ L bks tb, opnP b = .inr (L, bks) ∧ x = .returned (.tuple #[.pointer (some ⟨tb, 0, none⟩), .pointer none]) ∧ TblM w' w.heap.size tb L bks.length)

theorem opnP_ft {b : List UInt8} (h : 28 ≤ b.length) (he : ftE (ftOf b) (b.length - 28) ≠ 0) : opnP b = .inl (b.length - 28, ftE (ftOf b) (b.length - 28)) := by
  unfold opnP
  unfold ftE at he ⊢
  rw [if_neg (by omega)]
  split
  · rfl
  · next h1 =>
    rw [if_neg h1] at he
    split
    · rfl
    · next h2 => rw [if_neg h2] at he; exact absurd rfl he
theorem opnP_lt {b : List UInt8} (he : ftE (ftOf b) (b.length - 28) = 0) : crc ((ftOf b).take 24) = unfour ((ftOf b).drop 24) ∧ fI (ftOf b) < fF (ftOf b) ∧ fF (ftOf b) < b.length - 28 := by
  unfold ftE at he
  split at he
  · cases he
  · next h1 =>
    split at he
    · cases he
    · next h2 => exact ⟨by simpa using h1, by omega, by omega⟩
theorem opnP_bad {b : List UInt8} {at_ : Nat} (h : 28 ≤ b.length) (he : ftE (ftOf b) (b.length - 28) = 0) (ho : opA (b.take (fI (ftOf b))) 0 [] [] = .inl at_) : opnP b = .inl (at_, 14) := by
  obtain ⟨g1, g2, g3⟩ := opnP_lt he
  unfold opnP
  rw [if_neg (by omega), if_neg (by simpa using g1), if_neg (by omega), ho]
theorem opnP_idx {b : List UInt8} {L : List Ent} {bks : List TBk} (h : 28 ≤ b.length) (he : ftE (ftOf b) (b.length - 28) = 0) (ho : opA (b.take (fI (ftOf b))) 0 [] [] = .inr (L, bks))
    (h1 : ((b.drop (fI (ftOf b))).take (fF (ftOf b) - fI (ftOf b)) == frame (idxR bks)) = false) : opnP b = .inl (fI (ftOf b), 14) := by
  obtain ⟨g1, g2, g3⟩ := opnP_lt he
  unfold opnP
  rw [if_neg (by omega), if_neg (by simpa using g1), if_neg (by omega), ho]
  simp only
  rw [if_pos (by simpa using h1)]
theorem opnP_fil {b : List UInt8} {L : List Ent} {bks : List TBk} (h : 28 ≤ b.length) (he : ftE (ftOf b) (b.length - 28) = 0) (ho : opA (b.take (fI (ftOf b))) 0 [] [] = .inr (L, bks))
    (h1 : ((b.drop (fI (ftOf b))).take (fF (ftOf b) - fI (ftOf b)) == frame (idxR bks)) = true) (h2 : ((b.drop (fF (ftOf b))).take (b.length - 28 - fF (ftOf b)) == frame (filB L)) = false) : opnP b = .inl (fF (ftOf b), 14) := by
  obtain ⟨g1, g2, g3⟩ := opnP_lt he
  unfold opnP
  rw [if_neg (by omega), if_neg (by simpa using g1), if_neg (by omega), ho]
  simp only
  rw [if_neg (by simpa using h1), if_pos (by simpa using h2)]
theorem opnP_cnt {b : List UInt8} {L : List Ent} {bks : List TBk} (h : 28 ≤ b.length) (he : ftE (ftOf b) (b.length - 28) = 0) (ho : opA (b.take (fI (ftOf b))) 0 [] [] = .inr (L, bks))
    (h1 : ((b.drop (fI (ftOf b))).take (fF (ftOf b) - fI (ftOf b)) == frame (idxR bks)) = true) (h2 : ((b.drop (fF (ftOf b))).take (b.length - 28 - fF (ftOf b)) == frame (filB L)) = true) (h3 : fC (ftOf b) ≠ L.length) : opnP b = .inl (b.length - 28, 14) := by
  obtain ⟨g1, g2, g3⟩ := opnP_lt he
  unfold opnP
  rw [if_neg (by omega), if_neg (by simpa using g1), if_neg (by omega), ho]
  simp only
  rw [if_neg (by simpa using h1), if_neg (by simpa using h2), if_pos h3]
theorem opnP_ok {b : List UInt8} {L : List Ent} {bks : List TBk} (h : 28 ≤ b.length) (he : ftE (ftOf b) (b.length - 28) = 0) (ho : opA (b.take (fI (ftOf b))) 0 [] [] = .inr (L, bks))
    (h1 : ((b.drop (fI (ftOf b))).take (fF (ftOf b) - fI (ftOf b)) == frame (idxR bks)) = true) (h2 : ((b.drop (fF (ftOf b))).take (b.length - 28 - fF (ftOf b)) == frame (filB L)) = true) (h3 : fC (ftOf b) = L.length) : opnP b = .inr (L, bks) := by
  obtain ⟨g1, g2, g3⟩ := opnP_lt he
  unfold opnP
  rw [if_neg (by omega), if_neg (by simpa using g1), if_neg (by omega), ho]
  simp only
  rw [if_neg (by simpa using h1), if_neg (by simpa using h2), if_neg (by simpa using h3)]

set_option maxRecDepth 100000 in
set_option maxHeartbeats 2000000 in
theorem read_any (w : World) (q : Option Addr) (c : Nat) (b : List UInt8) (B : Nat) (h : Rd w B (.slice q b.length c) b) (hB : B ≤ w.heap.size) (ht : Tabs w) (hb40 : b.length ≤ 1073741824) :
    Calls Tryz.prog 41 #[.slice q b.length c] w fun x w' => ReadT w b x w' ∧ Below w.heap.size w w' := by
  have HR := Lib.hid h
  have HT := Lib.hid ht
  by_cases h28 : b.length < 28
  · have d1 : decide ((b.length : Int) - 28 < 0) = true := decide_eq_true (by omega)
    have hw1 : IntKind.i64.wrap ((b.length : Int) - 28) = (b.length : Int) - 28 := IntWalk.i64_in _ (by omega)
    have HO : Hid (opnP b = .inl (0, 11)) := Lib.hid (by unfold opnP; rw [if_pos h28])
    clear h ht h28
    go_enter Tryz.func41, Tryz.ntmps41
    go_wp2_with fail
    refine Go.bodyPost_ret (Go.results_tmp2 rfl _ _ _) rfl ?_
    exact ⟨.inl ⟨0, 11, w.heap.size, HO.out, rfl, heap_alloc_new w _⟩, below_alloc w _⟩
  · obtain ⟨en, hen⟩ : ∃ en, b.length - 28 = en := ⟨_, rfl⟩
    have hw1 : IntKind.i64.wrap ((b.length : Int) - 28) = (en : Int) := by rw [IntWalk.i64_in _ (by omega)]; omega
    have d1 : decide ((en : Int) < 0) = false := decide_eq_false (by omega)
    obtain ⟨pf, cf, hrf, hsf⟩ := tail_run (n := en) h (by omega)
    rw [show b.length - en = 28 by omega] at hrf hsf
    have hft : b.drop en = ftOf b := by unfold ftOf; rw [hen]
    rw [hft] at hrf
    have hfl : (ftOf b).length = 28 := by rw [← hft, List.length_drop]; omega
    have H28 := Lib.hid (show 28 ≤ b.length by omega)
    have HEn := Lib.hid hen
    have HF := Lib.hid (readFoot_any w pf cf (ftOf b) B en hrf hfl hB ht (by omega))
    have HEr := Lib.hid (fun (h0 : ftE (ftOf b) en ≠ 0) => (by have := @opnP_ft b H28.out (by rw [hen]; exact h0); rwa [hen] at this : opnP b = .inl (en, ftE (ftOf b) en)))
    clear h ht hrf hft hfl
    go_enter Tryz.func41, Tryz.ntmps41
    go_wp2_with fail
    refine HF.out.mono ?_
    rintro x w1 ⟨iv, fv, nv, rfl, hv, hb1⟩
    have HB1 := Lib.hid hb1
    have hz := heap_alloc_new w1 (.cells #[.int .u64 0, .int .u64 0, .int .u64 0] 136)
    obtain ⟨Y, hY⟩ : ∃ Y, w1.alloc (.cells #[.int .u64 0, .int .u64 0, .int .u64 0] 136) = Y := ⟨_, rfl⟩
    have hbY : Below w1.heap.size w1 Y := by rw [← hY]; exact below_alloc _ _
    rw [hY] at hz
    have x0 := frozen_of (i := 0) hz
    have x1 := frozen_of (i := 1) hz
    have x2 := frozen_of (i := 2) hz
    have u0 := cell_of (i := 0) hz rfl
    have u1 := cell_of (i := 1) hz rfl
    have u2 := cell_of (i := 2) hz rfl
    obtain ⟨X, hX⟩ : ∃ X, set3f Y w1.heap.size (.int .u64 (iv : Int)) (.int .u64 (fv : Int)) (.int .u64 (nv : Int)) = X := ⟨_, rfl⟩
    have hXf : X.heap[w1.heap.size]? = some (.cells #[.int .u64 (iv : Int), .int .u64 (fv : Int), .int .u64 (nv : Int)] 136 (0, 0)) := by rw [← hX]; exact set3f_heap hz _ _ _
    have hbX : Below w1.heap.size w1 X := by rw [← hX]; exact hbY.trans ((set3f_fr Y w1.heap.size _ _ _ (fun k => k = w1.heap.size) rfl).below hbY.size (fun k hk e => by omega))
    unfold set3f at hX
    have HXf := Lib.hid hXf
    have HbX := Lib.hid (hb1.trans (hbX.mono hb1.size))
    have HXs := Lib.hid hbX.size
    clear hz hbY hXf hbX hb1
    by_cases he : ftE (ftOf b) en = 0
    · obtain ⟨rfl, rfl, rfl⟩ := hv he
      have HGo := Lib.hid he
      rw [he]
      obtain ⟨_, hg2, hg3⟩ := opnP_lt (b := b) (by rw [hen]; exact he)
      rw [hen] at hg3
      have HBad := Lib.hid (fun (at_ : Nat) => @opnP_bad b at_ H28.out (by rw [hen]; exact he))
      have HIdx := Lib.hid (fun (L : List Ent) (bks : List TBk) => @opnP_idx b L bks H28.out (by rw [hen]; exact he))
      have HFil := Lib.hid (fun (L : List Ent) (bks : List TBk) => @opnP_fil b L bks H28.out (by rw [hen]; exact he))
      have HCnt := Lib.hid (fun (L : List Ent) (bks : List TBk) => @opnP_cnt b L bks H28.out (by rw [hen]; exact he))
      have HOk := Lib.hid (fun (L : List Ent) (bks : List TBk) => @opnP_ok b L bks H28.out (by rw [hen]; exact he))
      rw [hen] at HFil HCnt HOk
      generalize fI (ftOf b) = one at *
      generalize fF (ftOf b) = two at *
      generalize fC (ftOf b) = cnt at *
      clear hv he HEr HF hsf
      have hbX2 : Below X.heap.size X ((X.alloc (.cells #[.slice none 0 0, .slice none 0 0, .int .i64 0] 82)).alloc (.cells #[.slice none 0 0, .int .i64 0] 130)) := ((Below.refl _ _).alloc (Nat.le_refl _) _).alloc (by simp) _
      have hw1s : w.heap.size ≤ w1.heap.size := HB1.out.size
      have hXs : w1.heap.size ≤ X.heap.size := HXs.out
      have hXlt := block_lt HXf.out
      have HStart : Hid (RdJ w b one two cnt w1.heap.size X.heap.size (X.heap.size + 1) ((X.alloc (.cells #[.slice none 0 0, .slice none 0 0, .int .i64 0] 82)).alloc (.cells #[.slice none 0 0, .int .i64 0] 130)) 0 [] [] none 0 [] (.slice none 0 0)) := Lib.hid ⟨(hbX2.block _ (block_lt HXf.out)).trans HXf.out, (alloc_old (by simp) _).trans (heap_alloc_new X _), EnR.nil _ _, ⟨heap_alloc2_new X _ _, own_nil _ _⟩, fun u hu => by simp at hu, by omega, by omega, HbX.out.trans (hbX2.mono HbX.out.size), by simp, by omega, rfl, by simp [wgt], fun e he => by simp at he, by simp [idxR], by simp⟩
      clear hbX2
      go_wp2_with fail
      go_loopg [] one (fun m wr => ∃ (a : Nat) (L : List Ent) (bks : List TBk) (pe : Option Addr) (ce : Nat) (us : List Value) (rv : Value), m + a = one ∧ RdJ w b one two cnt w1.heap.size X.heap.size (X.heap.size + 1) wr a L bks pe ce us rv)
      case atStart => exact ⟨0, [], [], none, 0, [], _, by omega, HStart.out⟩
      case round =>
        obtain ⟨a, L, bks, pe, ce, us, rv, hma, hJ⟩ := hrel
        generalize wr = wz at *
        have HJ := Lib.hid hJ
        have hal := hJ.le
        have hbs := hJ.bel.size
        have k0 := cell_of (i := 0) hJ.ftb rfl
        have y1 := cell_of (i := 1) hJ.ix.blk rfl
        have hwo : IntKind.i64.wrap (one : Int) = (one : Int) := IntWalk.i64_in _ (by omega)
        have HMa := Lib.hid hma
        have HTz := Lib.hid (HT.out.under hJ.bel HT.out.two)
        have HRz := Lib.hid (HR.out.under hJ.bel hB)
        by_cases hlt : a < one
        · have d3 : decide ((a : Int) < (one : Int)) = true := decide_eq_true (by omega)
          obtain ⟨p3, hr3, hs3⟩ := cut3_run (n := a) (m := one - a) HRz.out (by omega) (by omega)
          rw [show a + (one - a) = one by omega] at hs3
          rw [← List.drop_take] at hr3
          have hwg := hJ.wg
          have hro := hJ.ro
          have hnb := hJ.nb
          have HTk := Lib.hid (take_any wz w.heap.size X.heap.size (X.heap.size + 1) pe ce us bks.length L rv (idxR bks) a (.slice p3 (one - a) (one - a)) ((b.take one).drop a) B hJ.tbl hJ.en hJ.ix hJ.sep hr3 (Nat.le_trans hB hbs) HTz.out hbs hJ.rt (by omega) (by rw [List.length_drop, List.length_take]; omega) hJ.sq (by omega) (by omega) (by omega))
          clear hJ hr3 hma
          go_wp2_with fail
          refine HTk.out.mono ?_
          rintro x w2 hout
          rcases hout with ⟨hbp, rfl, hfr⟩ | ⟨n, es, hbp, rfl, hto⟩
          · have hop : opA (b.take one) 0 [] [] = .inl a := by
              rw [HJ.out.op, opA_none (fun hn => ?_) hbp]
              have := congrArg List.length hn
              rw [List.length_drop, List.length_take, List.length_nil] at this
              omega
            have HBd := Lib.hid (HBad.out a hop)
            have hx2 := hfr.keep HJ.out.ix.blk (fun e => by
              rcases e with e | e
              · omega
              · exact (HJ.out.en.ne_kind HJ.out.ix.blk (by decide) (by decide)).1 e)
            have z1 := cell_of (i := 1) hx2 rfl
            have HB2 := Lib.hid (HJ.out.bel.trans (hfr.below hbs (fun k hk e => by
              rcases e with e | e
              · omega
              · have := row_low HJ.out.en.row k e; omega)))
            clear hop hbp hfr hx2 HTk
            go_wp2_with fail
            go_region
            all_goals
              go_wp2_with fail
              refine Go.bodyPost_ret (Go.results_tmp2 rfl _ _ _) rfl ?_
              first
                | exact ⟨.inl ⟨a, 14, w2.heap.size, HBd.out, rfl, heap_alloc_new w2 _⟩, below_drew (HB2.out.alloc HB2.out.size _)⟩
                | exact ⟨.inl ⟨a, 14, w2.heap.size, HBd.out, rfl, heap_alloc_new w2.drew _⟩, (below_drew HB2.out).alloc HB2.out.size _⟩
          · obtain ⟨pe', ce', us', rv', hst, hn0⟩ := HJ.out.step hlt (by omega) (by omega) hbp hto
            have HSt := Lib.hid hst
            have hle' := hst.le
            clear hst hto hbp HTk
            go_wp2_with fail
            go_roundg (one - (a + n))
            case measure => have := HMa.out; omega
            case rel => exact ⟨a + n, _, _, pe', ce', us', rv', by omega, HSt.out⟩
        · obtain rfl : a = one := by omega
          have hop : opA (b.take a) 0 [] [] = .inr (L, bks) := by
            rw [hJ.op]
            have : (b.take a).drop a = [] := List.eq_nil_of_length_eq_zero (by rw [List.length_drop, List.length_take]; omega)
            rw [this, opA_nil]
          have HIdx1 := Lib.hid (HIdx.out L bks hop)
          have HFil1 := Lib.hid (HFil.out L bks hop)
          have HCnt1 := Lib.hid (HCnt.out L bks hop)
          have HOk1 := Lib.hid (HOk.out L bks hop)
          have hwg := hJ.wg
          have hro := hJ.ro
          have hsl : ShL L := ⟨hJ.sq, by omega⟩
          have HEnU : Hid (En wz (fun k => w.heap.size ≤ k) (.slice pe L.length ce) L) := Lib.hid ⟨us, hJ.en.len47 (fun e he => by have := wgt_mem L e he; omega) (by have := wgt_len L; omega)⟩
          have HFlt := Lib.hid (filter_any wz _ pe ce L HEnU.out hsl HTz.out)
          have hfb := filB_len hsl
          have hll : L.length ≤ 1099511627776 := by have := wgt_len L; omega
          have t0 := cell_of (i := 0) hJ.tbl rfl
          clear hJ hop hsl HBad HIdx HFil HCnt HOk hma HEnU
          go_wp2_with fail
          refine HFlt.out.mono ?_
          rintro x w3 ⟨u3, rfl, hown3, hb3⟩
          obtain ⟨qf, cfl, rfl, _, _⟩ := hown3.shp
          have hJ3 := HJ.out
          have ht3 := (hb3.block _ (block_lt hJ3.tbl)).trans hJ3.tbl
          have f1 := frozen_of (i := 1) ht3
          have t1 := cell_of (i := 1) ht3 rfl
          have HO3 := Lib.hid hown3
          have HB3 := Lib.hid hb3
          obtain ⟨V, hV⟩ : ∃ V, w3.setCell ⟨X.heap.size, 1, none⟩ (.slice qf (filB L).length cfl) = V := ⟨_, rfl⟩
          have hfr : Fr (fun k => k = X.heap.size) wz V := by rw [← hV]; exact Fr.setCell_ (S := fun k => k = X.heap.size) (Fr.of_new hb3 _) (p := ⟨X.heap.size, 1, none⟩) rfl _
          have htV : V.heap[X.heap.size]? = some (.cells #[.slice pe L.length ce, .slice qf (filB L).length cfl, .int .i64 (bks.length : Int)] 82 (0, 0)) := by rw [← hV]; simpa using setCell_same (off := 1) ht3 (.slice qf (filB L).length cfl)
          have hfV := hfr.keep hJ3.ftb (fun e => by omega)
          have hxV := hfr.keep hJ3.ix.blk (fun e => by omega)
          have hrV : Own V w.heap.size rv (idxR bks) := hJ3.ix.own.keep fun j hj => hfr.block j (World.ownsRow.lt hJ3.ix.own j hj).2 (fun e => by
            obtain ⟨cur, hcu⟩ := hJ3.ix.own.heap hj
            subst e
            exact kind_ne hcu hJ3.tbl (by decide) rfl)
          have hlV : Own V w.heap.size (.slice qf (filB L).length cfl) (filB L) := by
            refine (hown3.more hbs).keep fun j hj => ?_
            rw [← hV]
            refine setCell_other (fun e => ?_) _
            obtain ⟨cur, hcu⟩ := hown3.heap hj
            subst e
            exact kind_ne hcu ht3 (by decide) rfl
          have heV : EnR V w.heap.size (.slice pe L.length ce) L us := hJ3.en.step hfr (fun k hk e => (hJ3.en.ne_kind hJ3.tbl (by decide) (by decide)).1 (e ▸ hk)) (fun u hu k hk e => (hJ3.en.ne_kind hJ3.tbl (by decide) (by decide)).2 u hu (e ▸ hk))
          have hBV : Below w.heap.size w V := hJ3.bel.trans (hfr.below hbs (fun k hk e => by omega))
          have HTV := Lib.hid (HT.out.under hBV HT.out.two)
          have HRV := Lib.hid (HR.out.under hBV hB)
          have HTb := Lib.hid htV
          have HfV := Lib.hid hfV
          have HrV := Lib.hid hrV
          have HlV := Lib.hid hlV
          have HeV := Lib.hid heV
          have HBV := Lib.hid hBV
          have HxV := Lib.hid hxV
          have hVs : w.heap.size ≤ V.heap.size := hBV.size
          clear hJ3 ht3 hown3 hb3 hfr htV hfV hxV hrV hlV heV hBV HFlt
          obtain ⟨p4, c4, hr4, hs4⟩ := cut_runK .u64 .u64 (n := a) (m := two - a) HRV.out (by omega)
          rw [show a + (two - a) = two by omega] at hs4
          obtain ⟨p5, c5, hr5, hs5⟩ := cut_runK .u64 .i64 (n := two) (m := en - two) HRV.out (by omega)
          rw [show two + (en - two) = en by omega] at hs5
          have HR4 := Lib.hid hr4
          have HR5 := Lib.hid hr5
          have k0 := cell_of (i := 0) HfV.out rfl
          have k1 := cell_of (i := 1) HfV.out rfl
          have y0 := cell_of (i := 0) HxV.out rfl
          obtain ⟨I, hI⟩ : ∃ I, frame (idxR bks) = I := ⟨_, rfl⟩
          obtain ⟨G, hG⟩ : ∃ G, frame (filB L) = G := ⟨_, rfl⟩
          have hIl := (frame_length (idxR bks) (by omega)).1
          have hGl := (frame_length (filB L) (by omega)).1
          have HFrI := Lib.hid (fun (W : World) (hW : Below V.heap.size V W) => frame_any rv (idxR bks) W.heap.size W (((HrV.out.rd (by omega)).under hW (Nat.le_refl _)).more hW.size) (Nat.le_refl _) (HTV.out.under hW (Nat.le_trans HTV.out.two (Nat.le_refl _))) (by omega))
          have HFrG := Lib.hid (fun (W : World) (hW : Below V.heap.size V W) => frame_any (.slice qf (filB L).length cfl) (filB L) W.heap.size W (((HlV.out.rd (by omega)).under hW (Nat.le_refl _)).more hW.size) (Nat.le_refl _) (HTV.out.under hW (Nat.le_trans HTV.out.two (Nat.le_refl _))) (by omega))
          rw [hI] at HFrI HIdx1 HFil1 HCnt1 HOk1 hIl
          rw [hG] at HFrG HFil1 HCnt1 HOk1 hGl
          clear hr4 hr5 t0 hI hG
          go_upto_region 12 with (fail)
          go_cut [62] (fun v wx => v = .bool (!((b.drop a).take (two - a) == I)) ∧ Below V.heap.size V wx)
          case first =>
            have HBd : Hid (Below V.heap.size V V.drew) := Lib.hid (below_drew (Below.refl _ _))
            go_region_with (first
              | (go_at_call 73
                 refine (HFrI.out _ (by exact below_heap (Below.refl _ V) rfl rfl rfl rfl)).mono ?_
                 rintro x wf ⟨fv, rfl, hownf, hbf⟩
                 have HBf : Hid (Below V.heap.size V wf) := Lib.hid (Below.trans (by exact below_heap (Below.refl _ V) rfl rfl rfl rfl) hbf)
                 have HOf := Lib.hid (hownf.rd (by omega))
                 have n0 := cell_of (i := 0) ((HBf.out.block _ (block_lt HfV.out)).trans HfV.out) rfl
                 have n1 := cell_of (i := 1) ((HBf.out.block _ (block_lt HfV.out)).trans HfV.out) rfl
                 clear hownf hbf)
              | (go_at_call 79
                 refine (equal_any _ _ ((b.drop a).take (two - a)) I B _ _ (by exact (HR4.out.under HBf.out (by omega)).heap rfl) (by exact HOf.out.heap rfl)).mono ?_
                 rintro x wf ⟨rfl, rfl⟩))
            all_goals
              go_wp2_with fail
              go_meet
              exact ⟨rfl, HBf.out⟩
          case rest =>
            obtain ⟨rfl, hbc⟩ := hcut
            have HBc := Lib.hid hbc
            have HBw : Hid (Below w.heap.size w wc) := Lib.hid (HBV.out.trans (hbc.mono hVs))
            have hfc := (hbc.block _ (block_lt HfV.out)).trans HfV.out
            have htc := (hbc.block _ (block_lt HTb.out)).trans HTb.out
            have k0 := cell_of (i := 0) hfc rfl
            have k1 := cell_of (i := 1) hfc rfl
            have t1 := cell_of (i := 1) htc rfl
            have Hfc := Lib.hid hfc
            have Htc := Lib.hid htc
            clear hbc hfc htc hs4
            cases hq1 : ((b.drop a).take (two - a) == I)
            · have hbad := HIdx1.out hq1
              have HBd2 := Lib.hid hbad
              clear hq1 hbad t1 k1
              go_wp2_with fail
              go_region
              all_goals
                go_wp2_with fail
                refine Go.bodyPost_ret (Go.results_tmp2 rfl _ _ _) rfl ?_
                first
                  | exact ⟨.inl ⟨a, 14, wc.heap.size, HBd2.out, rfl, heap_alloc_new wc _⟩, below_drew (HBw.out.alloc HBw.out.size _)⟩
                  | exact ⟨.inl ⟨a, 14, wc.heap.size, HBd2.out, rfl, heap_alloc_new wc.drew _⟩, (below_drew HBw.out).alloc HBw.out.size _⟩
            · have HQ1 := Lib.hid hq1
              generalize wc = wA at *
              clear hq1 k0
              go_upto_region 14 with (fail)
              go_cut [79] (fun v wx => v = .bool (!((b.drop two).take (en - two) == G)) ∧ Below wA.heap.size wA wx)
              case first =>
                go_region_with (first
                  | (go_at_call 73
                     refine (HFrG.out _ (by exact below_heap HBc.out rfl rfl rfl rfl)).mono ?_
                     rintro x wf ⟨fv, rfl, hownf, hbf⟩
                     have HBf : Hid (Below wA.heap.size wA wf) := Lib.hid (Below.trans (by exact below_heap (Below.refl _ wA) rfl rfl rfl rfl) hbf)
                     have HOf := Lib.hid (hownf.rd (by omega))
                     have n1 := cell_of (i := 1) ((HBf.out.block _ (block_lt Hfc.out)).trans Hfc.out) rfl
                     clear hownf hbf)
                  | (go_at_call 79
                     refine (equal_any _ _ ((b.drop two).take (en - two)) G B _ _ (by exact ((HR5.out.under HBc.out (by omega)).under HBf.out (by have := HBc.out.size; omega)).heap rfl) (by exact HOf.out.heap rfl)).mono ?_
                     rintro x wf ⟨rfl, rfl⟩))
                all_goals
                  go_wp2_with fail
                  go_meet
                  exact ⟨rfl, HBf.out⟩
              case rest =>
                obtain ⟨rfl, hbc⟩ := hcut
                have HBd : Hid (Below V.heap.size V wc) := Lib.hid (HBc.out.trans (hbc.mono HBc.out.size))
                have HBw2 : Hid (Below w.heap.size w wc) := Lib.hid (HBw.out.trans (hbc.mono HBw.out.size))
                have hfd := (hbc.block _ (block_lt Hfc.out)).trans Hfc.out
                have htd := (hbc.block _ (block_lt Htc.out)).trans Htc.out
                have m1 := cell_of (i := 1) hfd rfl
                have m2 := cell_of (i := 2) hfd rfl
                have s0 := cell_of (i := 0) htd rfl
                have Htd := Lib.hid htd
                have hwt : IntKind.i64.wrap (two : Int) = (two : Int) := IntWalk.i64_in _ (by omega)
                clear hbc hfd htd hs5 k1 t1
                cases hq2 : ((b.drop two).take (en - two) == G)
                · have hbad := HFil1.out HQ1.out hq2
                  have HBd2 := Lib.hid hbad
                  clear hq2 hbad m2 s0
                  go_wp2_with fail
                  go_region
                  all_goals
                    go_wp2_with fail
                    refine Go.bodyPost_ret (Go.results_tmp2 rfl _ _ _) rfl ?_
                    first
                      | exact ⟨.inl ⟨two, 14, wc.heap.size, HBd2.out, rfl, heap_alloc_new wc _⟩, below_drew (HBw2.out.alloc HBw2.out.size _)⟩
                      | exact ⟨.inl ⟨two, 14, wc.heap.size, HBd2.out, rfl, heap_alloc_new wc.drew _⟩, (below_drew HBw2.out).alloc HBw2.out.size _⟩
                · have HQ2 := Lib.hid hq2
                  have hwl : IntKind.u64.wrap (L.length : Int) = (L.length : Int) := IntWalk.u64_in _ (by omega)
                  clear hq2 m1
                  by_cases hc : cnt = L.length
                  · have hok := HOk1.out HQ1.out HQ2.out hc
                    have HOp := Lib.hid hok
                    have b1 : ((cnt : Int) != (L.length : Int)) = false := by simp; omega
                    clear hok hc
                    go_wp2_with fail
                    go_quiet (fail)
                    go_wp2_with fail
                    refine Go.bodyPost_ret (Go.results_tmp2 rfl _ _ _) rfl ?_
                    refine ⟨.inr ⟨L, bks, X.heap.size, HOp.out, rfl, ⟨pe, ce, us, qf, cfl, Htd.out, (HeV.out.after HBd.out).keep (fun _ _ => rfl) (fun _ _ _ _ => rfl), (HlV.out.after HBd.out).keep (fun _ _ => rfl)⟩⟩, below_drewN HBw2.out _⟩
                  · have hbad := HCnt1.out HQ1.out HQ2.out hc
                    have HBd2 := Lib.hid hbad
                    have b1 : ((cnt : Int) != (L.length : Int)) = true := by rw [bne_iff_ne]; omega
                    clear hbad hc
                    go_wp2_with fail
                    go_quiet (fail)
                    go_wp2_with fail
                    refine Go.bodyPost_ret (Go.results_tmp2 rfl _ _ _) rfl ?_
                    exact ⟨.inl ⟨en, 14, wc.heap.size, HBd2.out, rfl, heap_alloc_new (wc.drewN _) _⟩, (below_drewN HBw2.out _).alloc HBw2.out.size _⟩
    · have hop := HEr.out he
      have e0 : ((ftE (ftOf b) en : Int) != 0) = true := by rw [bne_iff_ne]; omega
      have HOp := Lib.hid hop
      generalize ftE (ftOf b) en = fe at *
      clear hop HEr he hv HF
      go_wp2_with fail
      refine Go.bodyPost_ret (Go.results_tmp2 rfl _ _ _) rfl ?_
      exact ⟨.inl ⟨en, fe, X.heap.size, HOp.out, rfl, heap_alloc_new X _⟩, HbX.out.alloc HbX.out.size _⟩
end Go.Proofs.YtagehnclkneolaaGreatDoor
