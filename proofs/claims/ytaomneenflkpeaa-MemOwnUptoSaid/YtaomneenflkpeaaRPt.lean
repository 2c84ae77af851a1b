/-
  The walk over the reference's Put.
-/
import Derived.Test.YtaomneenflkpeaaRPp
import Derived.Deep.RegionLaw
namespace Go.Proofs.Ytaomneenflkpeaa
open Go.RowKit

/-- A version in a block of its own. -/
def BoxE (w : World) (g : Nat) (x : Ent) (u : Value) : Prop := w.heap[g]? = some (.cells #[.string ⟨x.key.toArray⟩, .int .u64 (x.seq : Int), .bool x.gone, u] 30 (0, 0))
theorem BoxE.cells {w : World} {g : Nat} {x : Ent} {u : Value} (h : BoxE w g x u) : w.cell? ⟨g, 0, none⟩ = some (.string ⟨x.key.toArray⟩) ∧ w.cell? ⟨g, 1, none⟩ = some (.int .u64 (x.seq : Int)) ∧ w.cell? ⟨g, 2, none⟩ = some (.bool x.gone) ∧ w.cell? ⟨g, 3, none⟩ = some u :=
  ⟨cell_of h rfl, cell_of h rfl, cell_of h rfl, cell_of h rfl⟩
theorem BoxE.fz {w : World} {g : Nat} {x : Ent} {u : Value} (h : BoxE w g x u) (i : Nat) : w.frozen? ⟨g, i, none⟩ = false := frozen_of h
theorem BoxE.below {w w' : World} {g : Nat} {x : Ent} {u : Value} (h : BoxE w g x u) (hb : Below w.heap.size w w') : BoxE w' g x u := (hb.block g (block_lt h)).trans h

set_option maxRecDepth 100000 in
set_option maxHeartbeats 4000000 in
theorem r5_put_ (w : World) (S F : Nat → Prop) (bd tb : Nat) (T : PTb) (dv lv hv : Value) (us : List Value) (h : TbAt w S bd tb T dv lv hv us) (hl : T.L.length ≤ 1048576) (hc : T.came ≤ 1048576)
    (ek : List UInt8) (eq : Nat) (eg : Bool) (ev : List UInt8) (x : Ent) (hx : (⟨ek, eq, eg, if eg = true then [] else ev⟩ : Ent) = x) (hfit : FitE ⟨ek, eq, eg, ev⟩) (q : Option Addr) (c : Nat) (hv' : By w F (.slice q ev.length c) ev) :
    Calls Try.prog 12 #[.pointer (some ⟨tb, 0, none⟩), .agg #[.string ⟨ek.toArray⟩, .int .u64 (eq : Int), .bool eg, .slice q ev.length c]] w
      fun r w' => r = .returned (.tuple #[]) ∧ Tb w' (More S w.heap.size) bd tb (putT T x) ∧ Fr S w w' := by
  obtain ⟨X, hX⟩ : ∃ X, w.alloc (.cells #[.string ⟨ek.toArray⟩, .int .u64 (eq : Int), .bool eg, .slice q ev.length c] 30) = X := ⟨_, rfl⟩
  have hbX : Below w.heap.size w X := by rw [← hX]; exact (Below.refl _ _).alloc (Nat.le_refl _) _
  have hXs : X.heap.size = w.heap.size + 1 := by rw [← hX]; simp
  have hXb : X.heap[w.heap.size]? = some (.cells #[.string ⟨ek.toArray⟩, .int .u64 (eq : Int), .bool eg, .slice q ev.length c] 30 (0, 0)) := by rw [← hX]; exact heap_alloc_new w _
  have HTw := Lib.hid (r6_twin X F ⟨ek, eq, eg, ev⟩ q c (hv'.below hbX))
  have HT := Lib.hid h
  have HX := Lib.hid hx
  have HXb := Lib.hid hXb
  have HbX := Lib.hid hbX
  have HXs := Lib.hid hXs
  have HFx : Hid (FitE x) := Lib.hid (by rw [← hx]; exact normE_fit hfit)
  have HOx : Hid (oneE x = true) := Lib.hid (by rw [← hx]; exact normE_one ⟨ek, eq, eg, ev⟩)
  have HVl := Lib.hid hfit.val
  have x0 := cell_of (i := 0) hXb rfl
  have x1 := cell_of (i := 1) hXb rfl
  have x2 := cell_of (i := 2) hXb rfl
  have x3 := cell_of (i := 3) hXb rfl
  clear hbX hXs hXb hx hfit hv' h
  go_enter Try.func12, Try.ntmps12
  go_wp2_with fail
  refine HTw.out.mono ?_
  rintro r w1 ⟨v, rfl, ho1, hb1⟩
  obtain ⟨p9, c9, rfl, h91, h92⟩ := ho1.shp
  have hb1a := (hb1.block _ (by have := HXs.out; omega)).trans HXb.out
  have k0 := cell_of (i := 0) hb1a rfl
  have k1 := cell_of (i := 1) hb1a rfl
  have k2 := cell_of (i := 2) hb1a rfl
  have k3 := cell_of (i := 3) hb1a rfl
  have z0 := frozen_of (i := 0) hb1a
  have z1 := frozen_of (i := 1) hb1a
  have z2 := frozen_of (i := 2) hb1a
  have z3 := frozen_of (i := 3) hb1a
  obtain ⟨Z, hZ⟩ : ∃ Z, (((w1.setCell ⟨w.heap.size, 0, none⟩ (.string ⟨ek.toArray⟩)).setCell ⟨w.heap.size, 1, none⟩ (.int .u64 (eq : Int))).setCell ⟨w.heap.size, 2, none⟩ (.bool eg)).setCell ⟨w.heap.size, 3, none⟩ (.slice p9 ev.length c9) = Z := ⟨_, rfl⟩
  have hZ4 : set4 w1 w.heap.size (.string ⟨ek.toArray⟩) (.int .u64 (eq : Int)) (.bool eg) (.slice p9 ev.length c9) = Z := hZ
  have hZb : Z.heap[w.heap.size]? = some (.cells #[.string ⟨ek.toArray⟩, .int .u64 (eq : Int), .bool eg, .slice p9 ev.length c9] 30 (0, 0)) := by
    rw [← hZ4]
    exact set4_heap hb1a _ _ _ _
  have hfZ : Fr (fun k => k = w.heap.size) w1 Z := by
    rw [← hZ4]
    exact set4_fr w1 w.heap.size _ _ _ _ (fun k => k = w.heap.size) rfl
  have hbw1 : Below w.heap.size w w1 := HbX.out.trans (hb1.mono (by have := HXs.out; omega))
  have hbwZ : Below w.heap.size w Z := hbw1.trans (hfZ.below hbw1.size fun k hk e => by omega)
  have g2 := cell_of (i := 2) hZb rfl
  have g3 := cell_of (i := 3) hZb rfl
  have y3 := frozen_of (i := 3) hZb
  have HO : Hid (OwnS (fun k => w.heap.size < k) Z (.slice p9 ev.length c9) ev) := Lib.hid ⟨(ho1.more (Nat.zero_le _)).keep (fun k hk => hfZ.block k (by obtain ⟨cur, hcu⟩ := ho1.heap hk; exact block_lt hcu) (fun e => by have := ho1.block k hk; have := HXs.out; omega)), fun k hk => by have := ho1.block k hk; have := HXs.out; omega⟩
  have HZb := Lib.hid hZb
  have HbwZ := Lib.hid hbwZ
  clear ho1 hb1 hb1a hZ4 hZb hfZ hbw1 hbwZ
  go_upto_if 11 with (fail)
  go_cut [] (fun wx => Hid (∃ u, BoxE wx w.heap.size x u ∧ OwnS (fun k => w.heap.size < k) wx u x.val ∧ Below w.heap.size w wx))
  case first =>
    cases eg
    · have HR : Hid (∃ u, BoxE Z w.heap.size x u ∧ OwnS (fun k => w.heap.size < k) Z u x.val ∧ Below w.heap.size w Z) := Lib.hid (by
        have hval : x.val = ev := by rw [← HX.out]; rfl
        refine ⟨.slice p9 ev.length c9, ?_, by rw [hval]; exact HO.out, HbwZ.out⟩
        rw [← HX.out]
        exact HZb.out)
      go_wp2_with fail
      go_meet
      exact HR
    · have HR : Hid (∃ u, BoxE (Z.setCell ⟨w.heap.size, 3, none⟩ (.slice none 0 0)) w.heap.size x u ∧ OwnS (fun k => w.heap.size < k) (Z.setCell ⟨w.heap.size, 3, none⟩ (.slice none 0 0)) u x.val ∧ Below w.heap.size w (Z.setCell ⟨w.heap.size, 3, none⟩ (.slice none 0 0))) := Lib.hid (by
        have hval : x.val = [] := by rw [← HX.out]; rfl
        refine ⟨.slice none 0 0, ?_, by rw [hval]; exact OwnS.nil _ _, HbwZ.out.trans ((Fr.setCell (fun k => k = w.heap.size) Z (p := ⟨w.heap.size, 3, none⟩) rfl _).below HbwZ.out.size fun k hk e => by omega)⟩
        rw [← HX.out]
        have := setCell_same (off := 3) HZb.out (.slice none 0 0)
        unfold BoxE
        simpa using this)
      go_wp2_with fail
      go_meet
      exact HR
  case rest =>
    obtain ⟨wa, rfl⟩ : ∃ wa : World, wa = wc := ⟨_, rfl⟩
    obtain ⟨u, hbox, hou, hbw⟩ := hcut.out
    have hT := HT.out.after hbw
    have HEn : Hid (En wa S lv T.L) := Lib.hid ⟨us, hT.en (by omega)⟩
    have HB := Lib.hid hbox
    have HU := Lib.hid hou
    have HW := Lib.hid hbw
    have HTc := Lib.hid hT
    obtain ⟨P, hP⟩ : ∃ P, plcE x T.L = P := ⟨_, rfl⟩
    have hPl : P ≤ T.L.length := by rw [← hP]; exact plcE_le x T.L
    have HP := Lib.hid hP
    have c1 := hT.c1
    have HLt := Lib.hid hT.lt
    have HBlt : Hid (w.heap.size < wa.heap.size) := Lib.hid (block_lt hbox)
    obtain ⟨pl, capl, rfl, hlc, hl47, hcm, _⟩ := HEn.out.form
    obtain ⟨pu, cu, rfl, hu1, hu2⟩ := hou.1.shp
    clear hbox hou hbw hT hcut hP HTw HXb HbX HXs HZb HbwZ HO x0 x1 x2 x3 g2 g3 y3 k0 k1 k2 k3 z0 z1 z2 z3 hZ
    go_upto_block 0 with (fail)
    go_cut [4] (fun a wx => a = .int .i64 (P : Int) ∧ Hid (Below wa.heap.size wa wx))
    case first =>
      go_wp2_with fail
      go_loopw [4] (fun i wr => ∃ k : Nat, k ≤ P ∧ i = .int .i64 (k : Int) ∧ Below wa.heap.size wa wr) (fun i _ => T.L.length - (intOf i).toNat)
      case atStart => exact ⟨0, by omega, rfl, Below.refl _ _⟩
      case round =>
        obtain ⟨k, hk, rfl, hbr⟩ := hrel
        have HBr := Lib.hid hbr
        have hc1 := (below_cells hbr tb 1 HLt.out).trans c1
        obtain ⟨m0, m1, m2, m3⟩ := (HB.out.below hbr).cells
        clear hbr
        by_cases hlt : k < T.L.length
        · obtain ⟨b1, off1, q1, cc1, hpl, hb1, _, hV1, d0, d1, d2, d3⟩ := (HEn.out.below HBr.out).at_ (List.getElem?_eq_getElem hlt)
          subst hpl
          have HC := Lib.hid (r6_compare wr.drew T.L[k] x q1 pu T.L[k].val.length x.val.length cc1 cu)
          have HCN : Hid (cmpE T.L[k] x < 0 ↔ lessE T.L[k] x = true) := Lib.hid cmpE_neg
          have HLo : Hid (k < P → lessE T.L[k] x = true) := Lib.hid fun hkP => plcE_lo x T.L (by rw [HP.out]; exact hkP) (List.getElem?_eq_getElem hlt)
          have HHi : Hid (k = P → lessE T.L[k] x = false) := Lib.hid fun hkP => plcE_hi x T.L (by rw [HP.out, ← hkP]; exact List.getElem?_eq_getElem hlt)
          generalize T.L[k] = y at *
          generalize cmpE y x = cm at *
          clear hV1 hb1
          go_wp2_with fail
          refine wp_region_quiet_tail 16 (by kernel_rfl) (by kernel_rfl) ?_
          simp only [List.take_succ_cons, List.take_zero, List.drop_succ_cons, List.drop_zero]
          repeat (go_big_quiet_step (fail))
          refine wpQuiet_nil ?_
          clear d0 d1 d2 d3 m0 m1 m2 m3 hc1
          go_wp2_with fail
          refine HC.out.mono ?_
          rintro r w2 ⟨rfl, hb2⟩
          have HB2 : Hid (Below wa.heap.size wa w2) := Lib.hid ((below_drew HBr.out).trans (hb2.mono HBr.out.size))
          clear hb2
          by_cases hkP : k < P
          · have hq : decide (cm < 0) = true := decide_eq_true (HCN.out.2 (HLo.out hkP))
            go_wp2_with fail
            go_roundw
            case rel => exact ⟨k + 1, by omega, by go_num, HB2.out⟩
            case measure => simp [intOf]; omega
          · obtain rfl : k = P := by omega
            have hq : decide (cm < 0) = false := by
              rcases hd : decide (cm < 0) with _ | _
              · rfl
              · have h1 := HCN.out.1 (of_decide_eq_true hd)
                rw [HHi.out rfl] at h1
                cases h1
            go_wp2_with fail
            go_meet
            exact ⟨rfl, HB2⟩
        · obtain rfl : k = P := by omega
          obtain rfl : T.L.length = k := by omega
          go_wp2_with fail
          go_quiet (fail)
          go_wp2_with fail
          go_meet
          exact ⟨rfl, Lib.hid (below_drewN HBr.out _)⟩
    case rest =>
      obtain ⟨rfl, HBd⟩ := hcut
      obtain ⟨wb, rfl⟩ : ∃ wb : World, wb = wc := ⟨_, rfl⟩
      have hc1 := (below_cells HBd.out tb 1 HLt.out).trans c1
      obtain ⟨fd, hfd⟩ : ∃ fd, foundE x T.L = fd := ⟨_, rfl⟩
      have HFd := Lib.hid hfd
      clear hfd
      go_upto_region 7 with (fail)
      go_cut [52] (fun a wx => a = .bool fd ∧ Hid (Below wa.heap.size wa wx))
      case first =>
        obtain ⟨m0, m1, m2, m3⟩ := (HB.out.below HBd.out).cells
        by_cases hlt : P < T.L.length
        · obtain ⟨b1, off1, q1, cc1, hpl, hb1, _, hV1, d0, d1, d2, d3⟩ := (HEn.out.below HBd.out).at_ (List.getElem?_eq_getElem hlt)
          subst hpl
          have HC := Lib.hid (r6_compare wb.drew T.L[P] x q1 pu T.L[P].val.length x.val.length cc1 cu)
          have HCN : Hid (cmpE T.L[P] x = 0 ↔ atE T.L[P] x = true) := Lib.hid cmpE_zero
          have HFE : Hid (fd = atE T.L[P] x) := Lib.hid (by
            rw [← HFd.out]
            unfold foundE
            rw [HP.out, List.getElem?_eq_getElem hlt])
          generalize T.L[P] = y at *
          generalize cmpE y x = cm at *
          clear hV1 hb1
          refine wp_region_quiet_tail 16 (by kernel_rfl) (by kernel_rfl) ?_
          simp only [List.take_succ_cons, List.take_zero, List.drop_succ_cons, List.drop_zero]
          repeat (go_big_quiet_step (fail))
          refine wpQuiet_nil ?_
          clear d0 d1 d2 d3 m0 m1 m2 m3 hc1
          go_wp2_with fail
          refine HC.out.mono ?_
          rintro r w2 ⟨rfl, hb2⟩
          have HB2 : Hid (Below wa.heap.size wa w2) := Lib.hid ((below_drew HBd.out).trans (hb2.mono HBd.out.size))
          have HQ : Hid ((cm == 0) = fd) := Lib.hid (by
            rw [HFE.out, Bool.eq_iff_iff, beq_iff_eq]
            exact HCN.out)
          clear hb2
          cases fd
          · have hq := HQ.out
            go_wp2_with fail
            go_meet
            exact ⟨rfl, HB2⟩
          · have hq := HQ.out
            go_wp2_with fail
            go_meet
            exact ⟨rfl, HB2⟩
        · obtain rfl : T.L.length = P := by omega
          have hff : fd = false := by
            rw [← HFd.out]
            unfold foundE
            rw [HP.out, List.getElem?_eq_none (Nat.le_refl _)]
          subst hff
          go_quiet (fail)
          go_wp2_with fail
          go_meet
          exact ⟨rfl, Lib.hid (below_drewN HBd.out _)⟩
      case rest =>
        obtain ⟨rfl, HBe⟩ := hcut
        obtain ⟨wd, rfl⟩ : ∃ wd : World, wd = wc := ⟨_, rfl⟩
        have HTd := Lib.hid (HTc.out.after HBe.out)
        have HBd' := Lib.hid (HB.out.below HBe.out)
        have HOu : Hid (OwnS (More S w.heap.size) wd (.slice pu x.val.length cu) x.val) := Lib.hid (HU.out.step (Fr.of_new HBe.out (fun _ => False)) (fun _ _ _ hf => hf) (fun k _ hk => .inr (Nat.le_of_lt hk)))
        have HWd : Hid (Below w.heap.size w wd) := Lib.hid (HW.out.trans (HBe.out.mono (Nat.le_of_lt HBlt.out)))
        have HWf : Hid (WfT (putT T x)) := Lib.hid (HT.out.wf.put HFx.out HOx.out)
        have HLo : Hid (∀ k, More S w.heap.size k → bd ≤ k) := Lib.hid fun k hk => hk.elim (HT.out.lo k) (fun hle => by have := HT.out.lt; have := HT.out.lo tb HT.out.inS; omega)
        obtain ⟨m0, m1, m2, m3⟩ := HBd'.out.cells
        have c1d := HTd.out.c1
        have HUo : Hid (OwnS (fun k => w.heap.size < k) wd (.slice pu x.val.length cu) x.val) := Lib.hid (HU.out.step (Fr.of_new HBe.out (fun _ => False)) (fun _ _ _ hf => hf) (fun _ _ hk => hk))
        have HTw : Hid (tb < w.heap.size) := Lib.hid HT.out.lt
        clear hc1 HBd HEn HTc HB HBe c1 HU HBlt HW
        cases fd
        · have HTow := Lib.hid (r5_tower wd S bd tb T dv _ hv us HTd.out hc)
          go_wp2_with fail
          refine HTow.out.mono ?_
          rintro r we ⟨rfl, hte, hfe⟩
          have hBe : BoxE we w.heap.size x (.slice pu x.val.length cu) := hfe.keep HBd'.out (fun e => by have := HTw.out; omega)
          have hUe : OwnS (fun k => w.heap.size < k) we (.slice pu x.val.length cu) x.val := HUo.out.step hfe (fun k _ hk e => by have := HTw.out; omega) (fun _ _ hk => hk)
          obtain ⟨d0, d1, d2, d3⟩ := hBe.cells
          have hlen := cellsE_length T.L us hte.ulen
          obtain ⟨v1, hs1, hr1⟩ := slEnt.take (hte.en (by show T.L.length ≤ _; omega)).cl hlen hPl
          obtain ⟨v2, hs2, hr2⟩ := slEnt.drop (hte.en (by show T.L.length ≤ _; omega)).cl hlen hPl
          have c1e := hte.c1
          have HTe := Lib.hid hte
          have HBe := Lib.hid hBe
          have HUe := Lib.hid hUe
          have HWe : Hid (Fr (fun k => k = tb) wd we) := Lib.hid hfe
          have HS1 := Lib.hid hs1
          have HS2 := Lib.hid hs2
          have HLen := Lib.hid hlen
          have hbe : w.heap.size < we.heap.size := block_lt hBe
          have htbe : tb < we.heap.size := hte.lt
          clear m0 m1 m2 m3 c1d hte hBe hUe hfe hs1 hs2 hlen HTow HBd' HUo
          go_upto_region 10 with (fail)
          go_cut [6] (fun a wx => ∃ p6 c6, a = .slice p6 (P + 1) c6 ∧ Hid (wx.ownsRow we.heap.size 30 4 (.slice p6 (P + 1) c6) (P + 1) ((cellsE T.L us).take (P * 4) ++ cellsE [x] [.slice pu x.val.length cu]) ∧ Below we.heap.size we wx))
          case first =>
            have hold : ∀ (Y : World) (o : Obj) (b off : Nat) (v : Value), b < Y.heap.size → Y.cell? ⟨b, off, none⟩ = some v → (Y.alloc o).cell? ⟨b, off, none⟩ = some v := fun Y o b off v hb hc => (World.cell?_of_block (alloc_old hb o)).trans hc
            have c1A := hold we.drew (.cells #[] 30) tb 1 _ htbe c1e
            have c1B := hold we.drew (.cells #[.string ⟨x.key.toArray⟩, .int .u64 (x.seq : Int), .bool x.gone, .slice pu x.val.length cu] 30) tb 1 _ htbe c1e
            have d0A := hold we.drew (.cells #[] 30) w.heap.size 0 _ hbe d0
            have d1A := hold we.drew (.cells #[] 30) w.heap.size 1 _ hbe d1
            have d2A := hold we.drew (.cells #[] 30) w.heap.size 2 _ hbe d2
            have d3A := hold we.drew (.cells #[] 30) w.heap.size 3 _ hbe d3
            have c1AB := hold (we.drew.alloc (.cells #[] 30)) (.cells #[.string ⟨x.key.toArray⟩, .int .u64 (x.seq : Int), .bool x.gone, .slice pu x.val.length cu] 30) tb 1 _ (by simp; omega) c1A
            have c1BA := hold (we.drew.alloc (.cells #[.string ⟨x.key.toArray⟩, .int .u64 (x.seq : Int), .bool x.gone, .slice pu x.val.length cu] 30)) (.cells #[] 30) tb 1 _ (by simp; omega) c1B
            have hbA : Below we.heap.size we (we.drew.alloc (.cells #[] 30)) := (below_drew (Below.refl _ _)).alloc (Nat.le_refl _) _
            have hbB : Below we.heap.size we (we.drew.alloc (.cells #[.string ⟨x.key.toArray⟩, .int .u64 (x.seq : Int), .bool x.gone, .slice pu x.val.length cu] 30)) := (below_drew (Below.refl _ _)).alloc (Nat.le_refl _) _
            have hbAB : Below we.heap.size we ((we.drew.alloc (.cells #[] 30)).alloc (.cells #[.string ⟨x.key.toArray⟩, .int .u64 (x.seq : Int), .bool x.gone, .slice pu x.val.length cu] 30)) := hbA.alloc hbA.size _
            have hbBA : Below we.heap.size we ((we.drew.alloc (.cells #[.string ⟨x.key.toArray⟩, .int .u64 (x.seq : Int), .bool x.gone, .slice pu x.val.length cu] 30)).alloc (.cells #[] 30)) := hbB.alloc hbB.size _
            have rA : (we.drew.alloc (.cells #[] 30)).ownsRow we.heap.size 30 4 (.slice (some ⟨we.heap.size, 0, none⟩) 0 0) 0 [] := World.ownsRow_lit (e := 30) (size := 4) we.drew #[] 0 (Nat.le_refl _) (Nat.zero_le _) rfl
            have HA : Hid ((we.drew.alloc (.cells #[] 30)).ownsRow we.heap.size 30 4 (.slice (some ⟨we.heap.size, 0, none⟩) 0 0) 0 [] ∧ Cl (we.drew.alloc (.cells #[] 30)) S v1 P ((cellsE T.L us).take (P * 4)) ∧ Below we.heap.size we (we.drew.alloc (.cells #[] 30))) := Lib.hid ⟨rA, HS1.out.below hbA, hbA⟩
            have HAB : Hid (((we.drew.alloc (.cells #[] 30)).alloc (.cells #[.string ⟨x.key.toArray⟩, .int .u64 (x.seq : Int), .bool x.gone, .slice pu x.val.length cu] 30)).ownsRow we.heap.size 30 4 (.slice (some ⟨we.heap.size, 0, none⟩) 0 0) 0 [] ∧ Cl ((we.drew.alloc (.cells #[] 30)).alloc (.cells #[.string ⟨x.key.toArray⟩, .int .u64 (x.seq : Int), .bool x.gone, .slice pu x.val.length cu] 30)) S v1 P ((cellsE T.L us).take (P * 4)) ∧ Below we.heap.size we ((we.drew.alloc (.cells #[] 30)).alloc (.cells #[.string ⟨x.key.toArray⟩, .int .u64 (x.seq : Int), .bool x.gone, .slice pu x.val.length cu] 30))) := Lib.hid ⟨row_keep rA (fun k hk => by obtain rfl := Option.some.inj hk; exact alloc_old (by simp) _), HS1.out.below hbAB, hbAB⟩
            have HBA : Hid (((we.drew.alloc (.cells #[.string ⟨x.key.toArray⟩, .int .u64 (x.seq : Int), .bool x.gone, .slice pu x.val.length cu] 30)).alloc (.cells #[] 30)).ownsRow we.heap.size 30 4 (.slice (some ⟨we.heap.size + 1, 0, none⟩) 0 0) 0 [] ∧ Cl ((we.drew.alloc (.cells #[.string ⟨x.key.toArray⟩, .int .u64 (x.seq : Int), .bool x.gone, .slice pu x.val.length cu] 30)).alloc (.cells #[] 30)) S v1 P ((cellsE T.L us).take (P * 4)) ∧ Below we.heap.size we ((we.drew.alloc (.cells #[.string ⟨x.key.toArray⟩, .int .u64 (x.seq : Int), .bool x.gone, .slice pu x.val.length cu] 30)).alloc (.cells #[] 30))) := by
              have h1 := World.ownsRow_lit (e := 30) (size := 4) (we.drew.alloc (.cells #[.string ⟨x.key.toArray⟩, .int .u64 (x.seq : Int), .bool x.gone, .slice pu x.val.length cu] 30)) #[] 0 hbB.size (Nat.zero_le _) rfl
              rw [show (we.drew.alloc (.cells #[.string ⟨x.key.toArray⟩, .int .u64 (x.seq : Int), .bool x.gone, .slice pu x.val.length cu] 30)).heap.size = we.heap.size + 1 by simp] at h1
              exact Lib.hid ⟨h1, HS1.out.below hbBA, hbBA⟩
            have HSfAB : Hid (Cl ((we.drew.alloc (.cells #[] 30)).alloc (.cells #[.string ⟨x.key.toArray⟩, .int .u64 (x.seq : Int), .bool x.gone, .slice pu x.val.length cu] 30)) (fun k => k = we.heap.size + 1) (.slice (some ⟨we.heap.size + 1, 0, none⟩) 1 1) 1 (cellsE [x] [.slice pu x.val.length cu])) := by
              have h1 := Cl.new (we.drew.alloc (.cells #[] 30)) (fun k => k = we.heap.size + 1) 1 (cellsE [x] [.slice pu x.val.length cu]) #[.string ⟨x.key.toArray⟩, .int .u64 (x.seq : Int), .bool x.gone, .slice pu x.val.length cu] 30 rfl (by omega) (by simp)
              rw [show (we.drew.alloc (.cells #[] 30)).heap.size = we.heap.size + 1 by simp] at h1
              exact Lib.hid h1
            have HSfBA : Hid (Cl ((we.drew.alloc (.cells #[.string ⟨x.key.toArray⟩, .int .u64 (x.seq : Int), .bool x.gone, .slice pu x.val.length cu] 30)).alloc (.cells #[] 30)) (fun k => k = we.heap.size) (.slice (some ⟨we.heap.size, 0, none⟩) 1 1) 1 (cellsE [x] [.slice pu x.val.length cu])) := Lib.hid ((Cl.new we.drew (fun k => k = we.heap.size) 1 (cellsE [x] [.slice pu x.val.length cu]) #[.string ⟨x.key.toArray⟩, .int .u64 (x.seq : Int), .bool x.gone, .slice pu x.val.length cu] 30 rfl (by omega) rfl).step (Fr.of_new ((Below.refl _ _).alloc (Nat.le_refl _) _) (fun _ => False)) (fun _ _ _ hf => hf))
            have hxl : ((cellsE T.L us).take (P * 4)).length = P * 4 := by rw [List.length_take, HLen.out]; omega
            have HXl := Lib.hid hxl
            have one1 : Hid (∀ v ∈ (cellsE T.L us).take (P * 4), v.oneCell' = true) := Lib.hid fun v hv => cellsE_one _ _ (HTe.out.en (by show T.L.length ≤ _; omega)).ones v (List.mem_of_mem_take hv)
            have oneu : Hid (∀ v ∈ cellsE [x] [.slice pu x.val.length cu], v.oneCell' = true) := Lib.hid (cellsE_one _ _ (by simp [Value.oneCell']))
            clear hbA hbB hbAB hbBA hold rA hxl
            go_region_law (first
              | (refine slEnt.step_append rfl (.tmp 62) (.tmp 68) rfl we.heap.size (v := .slice (some ⟨we.heap.size, 0, none⟩) 0 0) (u := v1) (by simp [Act.eval, Act.put]) (by simp [Act.eval, Act.put]) HA.out.1 HA.out.2.1 HXl.out one1.out (by omega) HA.out.2.2.size ?_
                 intro y1 w1 ho1 hg1 ha1
                 have hb1 : Below we.heap.size we w1 := HA.out.2.2.grown (by exact hg1) HA.out.2.2.size (row_low HA.out.1)
                 have hlow1 := row_low ho1
                 have e0 : w1.heap[w.heap.size]? = (we.drew.alloc (.cells #[] 30)).heap[w.heap.size]? := hg1.block w.heap.size (by simp; omega) (fun e => absurd (Option.some.inj e) (Nat.ne_of_lt hbe))
                 have d0C := (World.cell?_of_block e0).trans d0A
                 have d1C := (World.cell?_of_block e0).trans d1A
                 have d2C := (World.cell?_of_block e0).trans d2A
                 have d3C := (World.cell?_of_block e0).trans d3A
                 have HO2 : Hid ((w1.alloc (.cells #[.string ⟨x.key.toArray⟩, .int .u64 (x.seq : Int), .bool x.gone, .slice pu x.val.length cu] 30)).ownsRow we.heap.size 30 4 y1 (0 + P) ([] ++ (cellsE T.L us).take (P * 4))) := Lib.hid (row_keep ho1 fun k hk => alloc_old (row_lt ho1 k hk) _)
                 have HSf2 : Hid (Cl (w1.alloc (.cells #[.string ⟨x.key.toArray⟩, .int .u64 (x.seq : Int), .bool x.gone, .slice pu x.val.length cu] 30)) (fun k => k = w1.heap.size) (.slice (some ⟨w1.heap.size, 0, none⟩) 1 1) 1 (cellsE [x] [.slice pu x.val.length cu])) := Lib.hid (Cl.new w1 (fun k => k = w1.heap.size) 1 (cellsE [x] [.slice pu x.val.length cu]) #[.string ⟨x.key.toArray⟩, .int .u64 (x.seq : Int), .bool x.gone, .slice pu x.val.length cu] 30 rfl (by omega) rfl)
                 have HB2 : Hid (Below we.heap.size we (w1.alloc (.cells #[.string ⟨x.key.toArray⟩, .int .u64 (x.seq : Int), .bool x.gone, .slice pu x.val.length cu] 30))) := Lib.hid (hb1.alloc hb1.size _)
                 clear e0 hlow1
                 clear ho1 hg1 ha1 hb1)
              | (refine slEnt.step_append rfl (.tmp 62) (.tmp 68) rfl we.heap.size (v := .slice (some ⟨we.heap.size, 0, none⟩) 0 0) (u := v1) (by simp [Act.eval, Act.put]) (by simp [Act.eval, Act.put]) HAB.out.1 HAB.out.2.1 HXl.out one1.out (by omega) HAB.out.2.2.size ?_
                 intro y1 w1 ho1 hg1 ha1
                 have hb1 : Below we.heap.size we w1 := HAB.out.2.2.grown (by exact hg1) HAB.out.2.2.size (row_low HAB.out.1)
                 have HO2 : Hid (w1.ownsRow we.heap.size 30 4 y1 (0 + P) ([] ++ (cellsE T.L us).take (P * 4))) := Lib.hid ho1
                 have HSf2 : Hid (Cl w1 (fun k => k = we.heap.size + 1) (.slice (some ⟨we.heap.size + 1, 0, none⟩) 1 1) 1 (cellsE [x] [.slice pu x.val.length cu])) := Lib.hid (HSfAB.out.step (Fr.grown hg1 (S := fun k => k = we.heap.size) (fun k hk => (Option.some.inj hk).symm)) (fun k _ hk e => by omega))
                 have HB2 : Hid (Below we.heap.size we w1) := Lib.hid hb1
                 clear ho1 hg1 ha1 hb1)
              | (refine slEnt.step_append rfl (.tmp 62) (.tmp 68) rfl we.heap.size (v := .slice (some ⟨we.heap.size + 1, 0, none⟩) 0 0) (u := v1) (by simp [Act.eval, Act.put]) (by simp [Act.eval, Act.put]) HBA.out.1 HBA.out.2.1 HXl.out one1.out (by omega) HBA.out.2.2.size ?_
                 intro y1 w1 ho1 hg1 ha1
                 have hb1 : Below we.heap.size we w1 := HBA.out.2.2.grown (by exact hg1) HBA.out.2.2.size (row_low HBA.out.1)
                 have HO2 : Hid (w1.ownsRow we.heap.size 30 4 y1 (0 + P) ([] ++ (cellsE T.L us).take (P * 4))) := Lib.hid ho1
                 have HSf2 : Hid (Cl w1 (fun k => k = we.heap.size) (.slice (some ⟨we.heap.size, 0, none⟩) 1 1) 1 (cellsE [x] [.slice pu x.val.length cu])) := Lib.hid (HSfBA.out.step (Fr.grown hg1 (S := fun k => k = we.heap.size + 1) (fun k hk => (Option.some.inj hk).symm)) (fun k _ hk e => by omega))
                 have HB2 : Hid (Below we.heap.size we w1) := Lib.hid hb1
                 clear ho1 hg1 ha1 hb1)
              | (refine slEnt.step_append rfl (.tmp 69) (.tmp 71) rfl we.heap.size (v := y1) (by rfl) (by rfl) HO2.out HSf2.out rfl oneu.out (by omega) HB2.out.size ?_
                 intro y2 w2 ho2 hg2 ha2
                 obtain ⟨p6, c6, e6, _, _⟩ := row_shape ho2
                 have e7 : y2 = .slice p6 (P + 1) c6 := by rw [e6, Nat.zero_add]
                 subst e7
                 have HO3 : Hid (w2.ownsRow we.heap.size 30 4 (.slice p6 (P + 1) c6) (P + 1) ((cellsE T.L us).take (P * 4) ++ cellsE [x] [.slice pu x.val.length cu])) := Lib.hid (by
                   have h1 := ho2
                   rw [Nat.zero_add, List.nil_append] at h1
                   exact h1)
                 have HB3 : Hid (Below we.heap.size we w2) := Lib.hid (HB2.out.grown (by exact hg2) HB2.out.size (row_low HO2.out))
                 clear ho2 hg2 ha2 e6))
            all_goals
              go_wp2_with fail
              go_meet
              exact ⟨p6, c6, rfl, Lib.hid ⟨HO3.out, HB3.out⟩⟩
          case rest =>
            obtain ⟨p6, c6, rfl, HR6⟩ := hcut
            obtain ⟨wf, rfl⟩ : ∃ wf : World, wf = wc := ⟨_, rfl⟩
            have hTf := HTe.out.after HR6.out.2
            have c1f := hTf.c1
            have c2f := hTf.c2
            have HTf := Lib.hid hTf
            have HS2f := Lib.hid (HS2.out.below HR6.out.2)
            have HR6l : Hid (we.heap.size ≤ wf.heap.size) := Lib.hid HR6.out.2.size
            have one2 : Hid (∀ v ∈ (cellsE T.L us).drop (P * 4), v.oneCell' = true) := Lib.hid fun v hv => cellsE_one _ _ (HTe.out.en (by show T.L.length ≤ _; omega)).ones v (List.mem_of_mem_drop hv)
            have HYl : Hid (((cellsE T.L us).drop (P * 4)).length = (T.L.length - P) * 4) := Lib.hid (by rw [List.length_drop, HLen.out]; omega)
            have hhl : T.H.length = T.L.length := HTe.out.wf.hs
            have hil : (ints T.H).length = T.H.length * 1 := by rw [ints_length, Nat.mul_one]
            have hcv : Cl we (fun k => hv.ownBlock = some k) hv T.H.length (ints T.H) := Cl.of_own HTe.out.hrow (by show T.H.length ≤ _; omega) (fun k hk => hk) hil
            obtain ⟨v3, hs3, hr3⟩ := slInt.take (k := P) hcv hil (by omega)
            obtain ⟨v4, hs4, hr4⟩ := slInt.drop (k := P) hcv hil (by omega)
            have HNe : Hid (∀ k, hv.ownBlock = some k → k ≠ tb) := Lib.hid fun k hk => HTe.out.far.2.1 k hk
            have HS3 := Lib.hid hs3
            have HS4 := Lib.hid hs4
            have HHl := Lib.hid hhl
            obtain ⟨t, ht⟩ : ∃ t, tow T = t := ⟨_, rfl⟩
            have HTt := Lib.hid ht
            rw [ht]
            clear hTf hs3 hs4 hcv hhl hil c1e d0 d1 d2 d3 hcm hlc ht
            go_upto_region 12 with (first
              | (at_builtin
                 refine slEnt.wpList_append rfl (.tmp 74) (.tmp 80) rfl we.heap.size (v := .slice p6 (P + 1) c6) (u := v2) rfl rfl HR6.out.1 HS2f.out HYl.out one2.out (by omega) HR6l.out ?_
                 intro y3 w3 ho3 hg3 ha3
                 have hb3 : Below we.heap.size we w3 := HR6.out.2.grown (by exact hg3) HR6l.out (row_low HR6.out.1)
                 have hblk3 := (hb3.block tb htbe).trans HTe.out.blk
                 have k1 := cell_of (i := 1) hblk3 rfl
                 have z1 := frozen_of (i := 1) hblk3
                 obtain ⟨p7, c7, rfl, _, _⟩ := row_shape ho3
                 obtain ⟨V1, hV1⟩ : ∃ V1, w3.setCell ⟨tb, 1, none⟩ (.slice p7 (P + 1 + (T.L.length - P)) c7) = V1 := ⟨_, rfl⟩
                 have hblkV := setCell_same (off := 1) hblk3 (.slice p7 (P + 1 + (T.L.length - P)) c7)
                 rw [hV1] at hblkV
                 have hrV : V1.ownsRow we.heap.size 30 4 (.slice p7 (P + 1 + (T.L.length - P)) c7) (P + 1 + (T.L.length - P)) ((cellsE T.L us).take (P * 4) ++ cellsE [x] [.slice pu x.val.length cu] ++ (cellsE T.L us).drop (P * 4)) := by
                   rw [← hV1]
                   exact row_keep ho3 fun k hk => setCell_other (fun e => by have := row_low ho3 k hk; omega) _
                 have hfV : Fr (fun k => k = tb ∨ we.heap.size ≤ k) we V1 := by
                   rw [← hV1]
                   exact ((Fr.of_below hb3).mono fun k _ hk => .inr hk).then (Fr.setCell _ w3 (p := ⟨tb, 1, none⟩) (.inl rfl) _)
                 have c2V := cell_of (i := 2) hblkV rfl
                 have HBlkV := Lib.hid hblkV
                 have HRV := Lib.hid hrV
                 have HFV := Lib.hid hfV
                 clear ho3 hg3 ha3 hb3 hblk3 hblkV hrV hfV))
            have hrl : Hid (we.heap.size ≤ V1.heap.size) := Lib.hid HFV.out.size
            have hnf : ∀ k, k < we.heap.size → hv.ownBlock = some k → ¬ (k = tb ∨ we.heap.size ≤ k) := fun k hk hb hor => hor.elim (HNe.out k hb) (by omega)
            have HTV : Hid (Cl V1 (fun k => hv.ownBlock = some k) v3 P ((ints T.H).take (P * 1)) ∧ Cl V1 (fun k => hv.ownBlock = some k) v4 (T.H.length - P) ((ints T.H).drop (P * 1))) := Lib.hid ⟨HS3.out.step HFV.out hnf, HS4.out.step HFV.out hnf⟩
            clear hnf
            obtain ⟨I1, hI1⟩ : ∃ I1, V1.alloc (.cells #[] 3) = I1 := ⟨_, rfl⟩
            have hbI : Below V1.heap.size V1 I1 := by rw [← hI1]; exact (Below.refl _ _).alloc (Nat.le_refl _) _
            have rI : I1.ownsRow V1.heap.size 3 1 (.slice (some ⟨V1.heap.size, 0, none⟩) 0 0) 0 [] := by
              rw [← hI1]
              exact World.ownsRow_lit (e := 3) (size := 1) V1 #[] 0 (Nat.le_refl _) (Nat.zero_le _) rfl
            have htV : tb < V1.heap.size := Nat.lt_of_lt_of_le htbe HFV.out.size
            have c2I := (below_cells hbI tb 2 htV).trans c2V
            have RI := Lib.hid rI
            have HbI := Lib.hid hbI
            have i1 : Hid (((ints T.H).take (P * 1)).length = P * 1) := Lib.hid (by rw [List.length_take, ints_length, HHl.out]; omega)
            have i2 : Hid (((ints T.H).drop (P * 1)).length = (T.H.length - P) * 1) := Lib.hid (by rw [List.length_drop, ints_length]; omega)
            have o1 : Hid (∀ v ∈ (ints T.H).take (P * 1), v.oneCell' = true) := Lib.hid fun v hv => by
              obtain ⟨n, _, rfl⟩ := List.mem_map.1 (List.mem_of_mem_take hv)
              rfl
            have o2 : Hid (∀ v ∈ (ints T.H).drop (P * 1), v.oneCell' = true) := Lib.hid fun v hv => by
              obtain ⟨n, _, rfl⟩ := List.mem_map.1 (List.mem_of_mem_drop hv)
              rfl
            clear rI hbI
            go_wp2_with (first
              | (at_builtin
                 refine slInt.wpList_append rfl (.tmp 84) (.tmp 90) rfl V1.heap.size (v := .slice (some ⟨V1.heap.size, 0, none⟩) 0 0) (u := v3) rfl rfl RI.out (HTV.out.1.below HbI.out) i1.out o1.out (by omega) HbI.out.size ?_
                 intro y4 w4 ho4 hg4 ha4
                 have hb4 : Below V1.heap.size V1 w4 := HbI.out.grown (by exact hg4) HbI.out.size (row_low RI.out)
                 obtain ⟨J, hJ⟩ : ∃ J, w4.alloc (.cells #[.int .i64 t] 3) = J := ⟨_, rfl⟩
                 have RJ : Hid (J.ownsRow V1.heap.size 3 1 y4 (0 + P) ([] ++ (ints T.H).take (P * 1))) := Lib.hid (by rw [← hJ]; exact row_keep ho4 fun k hk => alloc_old (row_lt ho4 k hk) _)
                 have CJ : Hid (Cl J (fun k => k = w4.heap.size) (.slice (some ⟨w4.heap.size, 0, none⟩) 1 1) 1 [.int .i64 t]) := Lib.hid (by rw [← hJ]; exact Cl.new w4 (fun k => k = w4.heap.size) 1 [.int .i64 t] #[.int .i64 t] 3 rfl (by omega) rfl)
                 have HbJ : Hid (Below V1.heap.size V1 J) := Lib.hid (by rw [← hJ]; exact hb4.alloc hb4.size _)
                 have c2J := (below_cells HbJ.out tb 2 htV).trans c2V
                 have oJ : Hid (∀ v ∈ [Value.int .i64 t], v.oneCell' = true) := Lib.hid (by simp [Value.oneCell'])
                 clear ho4 hg4 ha4 hb4)
              | (at_builtin
                 refine slInt.wpList_append rfl (.tmp 91) (.tmp 93) rfl V1.heap.size (v := y4) (u := .slice (some ⟨w4.heap.size, 0, none⟩) 1 1) rfl rfl RJ.out CJ.out rfl oJ.out (by omega) HbJ.out.size ?_
                 intro y5 w5 ho5 hg5 ha5
                 rw [Nat.zero_add] at ho5
                 have hb5 : Below V1.heap.size V1 w5 := HbJ.out.grown (by exact hg5) HbJ.out.size (row_low RJ.out)
                 have c2K := (below_cells hb5 tb 2 htV).trans c2V
                 have RK := Lib.hid ho5
                 have HbK := Lib.hid hb5
                 obtain ⟨p8, c8, e8, _, _⟩ := row_shape ho5
                 subst e8
                 clear ho5 hg5 ha5 hb5)
              | (at_builtin
                 refine slInt.wpList_append rfl (.tmp 96) (.tmp 102) rfl V1.heap.size (v := .slice p8 (P + 1) c8) (u := v4) rfl rfl RK.out (HTV.out.2.below HbK.out) i2.out o2.out (by have := HHl.out; omega) HbK.out.size ?_
                 intro y6 w6 ho6 hg6 ha6
                 have hb6 : Below V1.heap.size V1 w6 := HbK.out.grown (by exact hg6) HbK.out.size (row_low RK.out)
                 have hblk6 := (hb6.block tb htV).trans HBlkV.out
                 have k2 := cell_of (i := 2) hblk6 rfl
                 have z2 := frozen_of (i := 2) hblk6
                 obtain ⟨p9, c9, e9, _, _⟩ := row_shape ho6
                 subst e9
                 have R6 := Lib.hid ho6
                 have HB6 := Lib.hid hb6
                 have HBlk6 := Lib.hid hblk6
                 clear ho6 hg6 ha6 hb6 hblk6))
            go_end0
            obtain ⟨V2, hV2⟩ : ∃ V2, w6.setCell ⟨tb, 2, none⟩ (.slice p9 (P + 1 + (T.H.length - P)) c9) = V2 := ⟨_, rfl⟩
            have hblk2 := setCell_same (off := 2) HBlk6.out (.slice p9 (P + 1 + (T.H.length - P)) c9)
            have hF2 : Fr (fun k => k = tb ∨ V1.heap.size ≤ k) V1 (w6.setCell ⟨tb, 2, none⟩ (.slice p9 (P + 1 + (T.H.length - P)) c9)) :=
              ((Fr.of_below HB6.out).mono fun k _ hk => .inr hk).then (Fr.setCell _ w6 (p := ⟨tb, 2, none⟩) (.inl rfl) _)
            have hrow6 : (w6.setCell ⟨tb, 2, none⟩ (.slice p9 (P + 1 + (T.H.length - P)) c9)).ownsRow V1.heap.size 3 1 (.slice p9 (P + 1 + (T.H.length - P)) c9) (P + 1 + (T.H.length - P)) ([] ++ (ints T.H).take (P * 1) ++ [.int .i64 t] ++ (ints T.H).drop (P * 1)) :=
              row_keep R6.out fun k hk => setCell_other (fun e => by have := row_low R6.out k hk; omega) _
            rw [hV2] at hblk2 hF2 hrow6 ⊢
            have hfin : TbAt V2 (More S w.heap.size) bd tb (putT T x) dv (.slice p7 (P + 1 + (T.L.length - P)) c7) (.slice p9 (P + 1 + (T.H.length - P)) c9) (us.take P ++ .slice pu x.val.length cu :: us.drop P) := by
              have hul : us.length = T.L.length := HTe.out.ulen
              have hw := HWf.out
              rw [putT_new HFd.out, HP.out, HTt.out] at hw ⊢
              have hLl : (T.L.take P ++ x :: T.L.drop P).length = P + 1 + (T.L.length - P) := by simp; omega
              have hHl : (T.H.take P ++ t :: T.H.drop P).length = P + 1 + (T.H.length - P) := by have := HHl.out; simp; omega
              have hcs : (cellsE T.L us).take (P * 4) ++ cellsE [x] [.slice pu x.val.length cu] ++ (cellsE T.L us).drop (P * 4) = cellsE (T.L.take P ++ x :: T.L.drop P) (us.take P ++ .slice pu x.val.length cu :: us.drop P) := by
                rw [cellsE_take _ _ hul _ hPl, cellsE_drop _ _ hul _ hPl, List.append_assoc, ← cellsE_append [x] (T.L.drop P) [.slice pu x.val.length cu] (us.drop P) rfl, ← cellsE_append (T.L.take P) _ (us.take P) _ (by simp [hul])]
                rfl
              have hhs : [] ++ (ints T.H).take (P * 1) ++ [.int .i64 t] ++ (ints T.H).drop (P * 1) = ints (T.H.take P ++ t :: T.H.drop P) := by simp [ints]
              have hkeep : ∀ {R : Nat → Prop} {v : Value} {l : List UInt8}, OwnS R we v l → (∀ k, v.ownBlock = some k → k ≠ tb) → (∀ k, k < we.heap.size → R k → More S w.heap.size k) → OwnS (More S w.heap.size) V2 v l := fun hu hne hR => by
                have h1 := hu.keep (S' := More S w.heap.size) (w' := V1) (fun j hj => by
                  obtain ⟨cur, hcu⟩ := hu.1.heap hj
                  exact HFV.out.block j (block_lt hcu) (fun hor => hor.elim (hne j hj) (fun hle => by have := block_lt hcu; omega))) hR
                exact h1.keep (fun j hj => by
                  obtain ⟨cur, hcu⟩ := h1.1.heap hj
                  exact hF2.block j (block_lt hcu) (fun hor => hor.elim (hne j hj) (fun hle => by have := block_lt hcu; omega))) (fun _ _ hs => hs)
              have hdt := HTe.out.lo tb HTe.out.inS
              refine ⟨hblk2, (HTe.out.drw.step HFV.out (fun k _ hk hor => by omega)).step hF2 (fun k _ hk hor => by omega), ?_, ?_, fun k e v h1 h2 => ?_, ?_, .inl HTe.out.inS, fun k hk => .inr ?_, fun k hk => .inr ?_, HLo.out, hw⟩
              · show V2.ownsRow 0 _ 4 _ (T.L.take P ++ x :: T.L.drop P).length (cellsE (T.L.take P ++ x :: T.L.drop P) _)
                rw [hLl, ← hcs]
                exact row_more (row_keep HRV.out fun k hk => hF2.block k (row_lt HRV.out k hk) (fun hor => by have := row_low HRV.out k hk; have := row_lt HRV.out k hk; omega)) (fun _ _ => Nat.zero_le _)
              · show (us.take P ++ _ :: us.drop P).length = (T.L.take P ++ x :: T.L.drop P).length
                simp [hul]
              · rcases pair_ins (a := T.L) (b := us) hul hPl h1 h2 with ⟨rfl, rfl⟩ | ⟨m, h3, h4⟩
                · exact hkeep HUe.out (fun k hk => by have := HUe.out.2 k hk; have := HTw.out; omega) (fun k _ hk => .inr (Nat.le_of_lt hk))
                · exact hkeep (HTe.out.val m e v h3 h4) (fun k hk => ((HTe.out.val m e v h3 h4).far HTe.out hk).1) (fun _ _ hs => .inl hs)
              · show V2.ownsRow 0 _ 1 _ (T.H.take P ++ t :: T.H.drop P).length (ints (T.H.take P ++ t :: T.H.drop P))
                rw [hHl, ← hhs]
                exact row_more hrow6 (fun _ _ => Nat.zero_le _)
              · have := row_low HRV.out k hk
                omega
              · have := row_low hrow6 k hk
                have := HFV.out.size
                omega
            have hfr : Fr S w V2 := by
              have h0 : Fr S w wd := Fr.of_new HWd.out S
              have h1 : Fr S w we := h0.trans (HWe.out.mono fun k _ hk => .inl (by rw [hk]; exact HTe.out.inS))
              have h2 : Fr S w V1 := h1.trans (HFV.out.mono fun k _ hk => hk.elim (fun e => .inl (by rw [e]; exact HTe.out.inS)) (fun hle => .inr (by omega)))
              exact h2.trans (hF2.mono fun k _ hk => hk.elim (fun e => .inl (by rw [e]; exact HTe.out.inS)) (fun hle => .inr (by have := HFV.out.size; omega)))
            exact ⟨rfl, ⟨_, _, _, _, hfin⟩, hfr⟩
        · have hPl2 : P < T.L.length := by
            have h1 := HFd.out
            rw [← HP.out]
            rcases Nat.lt_or_ge (plcE x T.L) T.L.length with hh | hh
            · exact hh
            · unfold foundE at h1
              rw [List.getElem?_eq_none hh] at h1
              cases h1
          obtain ⟨g, hpg, hgh⟩ : ∃ g, pl = some ⟨g, 0, none⟩ ∧ ∃ cur, wd.heap[g]? = some (.cells cur 30 (0, 0)) := by
            rcases HTd.out.row.2 with ⟨h1, h2⟩ | ⟨g, cap, cur, h1, _, hg, _⟩
            · omega
            · injection h1 with h1 _ _
              exact ⟨g, h1, cur, hg⟩
          obtain ⟨cur, hcur⟩ := hgh
          subst hpg
          obtain ⟨b1, off1, q1, cc1, hpl, _, _, _, _, d0, d1, d2, d3⟩ := (HTd.out.en (by omega)).at_ (List.getElem?_eq_getElem hPl2)
          obtain ⟨rfl, rfl⟩ : g = b1 ∧ 0 = off1 := by simpa using hpl
          rw [Nat.zero_add] at d0 d1 d2 d3
          have y0 := frozen_of (i := P * 4) hcur
          have y1 := frozen_of (i := P * 4 + 1) hcur
          have y2 := frozen_of (i := P * 4 + 2) hcur
          have y3 := frozen_of (i := P * 4 + 3) hcur
          have HEnd := Lib.hid ((HTd.out.drewN 1).setAt hPl2 (S' := More S w.heap.size) (HOu.out.keep (w' := wd.drewN 1) (fun _ _ => rfl) (fun _ _ hs => hs)) (fun _ _ hs => .inl hs) HLo.out (by
            have := HWf.out
            rw [putT_found HFd.out, HP.out] at this
            exact this))
          have HFr := Lib.hid (set4o_fr (wd.drewN 1) g (P * 4) (.string ⟨x.key.toArray⟩) (.int .u64 (x.seq : Int)) (.bool x.gone) (.slice pu x.val.length cu) S (HTd.out.inL g rfl))
          generalize T.L[P] = y at *
          clear hcur hpl
          go_wp2_with fail
          refine wp_region_quiet_tail 7 (by kernel_rfl) (by kernel_rfl) ?_
          simp only [List.take_succ_cons, List.take_zero, List.drop_succ_cons, List.drop_zero]
          repeat (go_big_quiet_step (fail))
          refine wpQuiet_nil ?_
          go_wp2_with fail
          (try simp only [Exit.inBlock, Exit.then])
          have hfin : Tb (set4o (wd.drewN 1) g (P * 4) (.string ⟨x.key.toArray⟩) (.int .u64 (x.seq : Int)) (.bool x.gone) (.slice pu x.val.length cu)) (More S w.heap.size) bd tb (putT T x) := by
            rw [putT_found HFd.out, HP.out]
            exact ⟨_, _, _, _, HEnd.out⟩
          have hfr := ((Fr.of_new HWd.out S).drewN 1).then HFr.out
          refine bodyPost_ret (results_none rfl _ _ _) rfl ⟨rfl, hfin, hfr⟩

theorem r5_put (w : World) (S F : Nat → Prop) (bd tb : Nat) (T : PTb) (h : Tb w S bd tb T) (hl : T.L.length ≤ 1048576) (hc : T.came ≤ 1048576) (e : Ent) (hfit : FitE e) (q : Option Addr) (c : Nat) (hv : By w F (.slice q e.val.length c) e.val) :
    Calls Try.prog 12 #[.pointer (some ⟨tb, 0, none⟩), .agg #[.string ⟨e.key.toArray⟩, .int .u64 (e.seq : Int), .bool e.gone, .slice q e.val.length c]] w
      fun r w' => r = .returned (.tuple #[]) ∧ Tb w' (More S w.heap.size) bd tb (putT T (normE e)) ∧ Fr S w w' := by
  obtain ⟨dv, lv, hv', us, h⟩ := h
  exact r5_put_ w S F bd tb T dv lv hv' us h hl hc e.key e.seq e.gone e.val (normE e) rfl hfit q c hv
end Go.Proofs.Ytaomneenflkpeaa
