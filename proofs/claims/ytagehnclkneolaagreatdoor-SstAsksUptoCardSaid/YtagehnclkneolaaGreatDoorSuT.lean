/-
  The walk over glacierlaw7.SstAsks.
-/
import Derived.Test.YtagehnclkneolaaGreatDoorSuS
import Derived.Test.YtagehnclkneolaaGreatDoorGTc
import Derived.Deep.RegionHeld3
import Derived.Lib.QuietBelow
namespace Go.Proofs.YtagehnclkneolaaGreatDoor
open Go.RowKit

set_option maxRecDepth 100000 in
set_option maxHeartbeats 4000000 in
theorem asks_any (w : World) (v : Value) (es : List Ent) (block : Int) (key : List UInt8) (up : Nat) (h : En w (fun k => k < w.heap.size) v es) (hf : ∀ x ∈ es, FitE x) (hl : es.length ≤ 1048576) (hkl : key.length ≤ 140737488354000) (ht : Tabs w) (hb1 : -9223372036854775808 ≤ block) (hb2 : block ≤ 9223372036854775807) :
    Calls Tryz.prog 4 #[v, .int .i64 block, .string ⟨key.toArray⟩, .int .u64 (up : Int)] w fun e w' => e = .returned (.bool true) ∧ Below w.heap.size w w' := by
  have HK := Lib.hid (known7 w ht)
  have HFw := Lib.hid (fun (V : World) (hV : Below w.heap.size w V) => l5_few V _ v es (h.below hV) hf hl 400)
  have HSh := Lib.hid (fun (hq : fewE es 400 = true) => few_sh hq hf)
  have HBk : Hid (fewE es 400 = true → es.length ≤ 400 ∧ bulkE es ≤ 131072) := Lib.hid (fun hq => by
    unfold fewE at hq
    simp only [Bool.and_eq_true, decide_eq_true_eq] at hq
    omega)
  have HV := Lib.hid h
  have HT := Lib.hid ht
  obtain ⟨p, cap, rfl, hlc, hl47, hcm, _⟩ := h.form
  clear h hf ht
  obtain ⟨few, hfew⟩ : ∃ few, fewE es 400 = few := ⟨_, rfl⟩
  rw [hfew] at HFw HSh HBk
  clear hfew
  go_enter Tryz.func4, Tryz.ntmps4
  go_wp2_with fail
  refine HK.out.mono ?_
  rintro x w1 ⟨rfl, hb1'⟩
  have HB1 := Lib.hid hb1'
  have HFw1 := Lib.hid (HFw.out w1 hb1')
  clear hb1' HK HFw
  go_wp2_with fail
  refine HFw1.out.mono ?_
  rintro x w2 ⟨rfl, n2, hw2⟩
  have HB2 : Hid (Below w.heap.size w w2) := Lib.hid (by rw [hw2]; exact below_drewN HB1.out n2)
  clear hw2 HFw1
  cases few
  · go_wp2_with fail
    go_ret
    exact ⟨rfl, HB2.out⟩
  · by_cases hk1 : 10000 < key.length
    · have d1 : decide ((10000 : Int) < (key.length : Int)) = true := decide_eq_true (by omega)
      have d1n : decide (10000 < key.length) = true := decide_eq_true (by omega)
      clear hk1
      go_wp2_with fail
      go_ret
      exact ⟨rfl, HB2.out⟩
    · have d1 : decide ((10000 : Int) < (key.length : Int)) = false := decide_eq_false (by omega)
      have d1n : decide (10000 < key.length) = false := decide_eq_false (by omega)
      have hkl2 : key.length ≤ 10000 := by omega
      have hsh := HSh.out rfl
      have hbk := HBk.out rfl
      have HSh1 := Lib.hid hsh
      have HC2 := Lib.hid (refBuild_any w2 _ p cap es block (HV.out.below HB2.out) hsh hb1 hb2)
      have hcut : ∀ c ∈ cutE block.toNat [] es, c ≠ [] := fun c hc => cutE_ne _ _ _ c hc
      have htl : (tblB block.toNat es).length ≤ 1073741824 := by
        have h1 := tbl_len hsh hcut
        have h2 := wgt_bulk es
        unfold filN at h1
        omega
      have HOp := Lib.hid (fun (h0 : refN block es = 0) => built_opens (block := block) hsh (by have := wgt_bulk es; omega) h0)
      have HTl := Lib.hid htl
      clear hsh htl hcut HSh HBk hk1
      generalize bkOf 0 (cutE block.toNat [] es) = bks at *
      generalize refN block es = rn at *
      generalize tblB block.toNat es = T at *
      go_wp2_with fail
      refine HC2.out.mono ?_
      rintro x w3 ⟨⟨u3, rfl, hu3⟩, hb3⟩
      have HB3 := Lib.hid (HB2.out.trans (hb3.mono HB2.out.size))
      rcases hu3 with ⟨rfl, ho3⟩ | ⟨hn, rfl⟩
      · obtain ⟨hrt, hop⟩ := HOp.out rfl
        obtain ⟨q3, c3, rfl, _, _⟩ := ho3.shp
        have HOpn := Lib.hid (opened_yes w3 q3 c3 T w3.heap.size (ho3.rd (by have := HTl.out; omega)) (Nat.le_refl _) (HT.out.under HB3.out HT.out.two) HTl.out es bks hop)
        have hsr : SrtE es := (rightE_iff.1 hrt).2
        have HSr := Lib.hid hsr
        clear hrt hop ho3 hb3 hsr HOp HC2
        go_wp2_with fail
        refine HOpn.out.mono ?_
        rintro x w4 ⟨tb, rb, base, base', rfl, hT4, hR4, hb4⟩
        have HB4 := Lib.hid (HB3.out.trans (hb4.mono HB3.out.size))
        have HT4 := Lib.hid hT4
        have HR4 := Lib.hid hR4
        have HLk := Lib.hid (looks_any w4 base base' tb rb es bks hT4 hR4 HSh1.out HSr.out hl)
        clear hT4 hR4 hb4 HOpn
        go_wp2_with fail
        refine HLk.out.mono ?_
        rintro x w5 ⟨rfl, hb5⟩
        have HB5 := Lib.hid (HB4.out.trans (hb5.mono HB4.out.size))
        have HT5 := Lib.hid (HT4.out.below hb5)
        have HR5 : Hid (RTbM w5 base' rb es bks) := Lib.hid (by
          obtain ⟨pe, ce, us, pk, ck, qf, cf, h1, h2, h3⟩ := HR4.out.out
          exact ⟨pe, ce, us, pk, ck, qf, cf, (hb5.block _ (block_lt h1)).trans h1, h2.after hb5, h3.after hb5⟩)
        have HKs := Lib.hid (KsR.new w5 key [])
        clear hb5 HLk HT4 HR4
        have hwk : wgt es ≤ 143472 := by have := wgt_bulk es; have := hbk; omega
        have HWk := Lib.hid hwk
        go_upto_block 0 with (fail)
        generalize hwA : w5.alloc _ = wA
        have HBA : Hid (Below w5.heap.size w5 wA) := Lib.hid (by rw [← hwA]; exact below_alloc _ _)
        obtain ⟨hll, _⟩ := hbk
        go_cut [14, 15] from 59 to 82 (fun kv iv wx => ∃ (k : Nat) (pk : Option Addr) (ck : Nat), k ≤ es.length ∧ k ≤ 40 ∧ kv = .slice pk (2 + 2 * k) ck ∧ wx.ownsRow w5.heap.size 9 1 (.slice pk (2 + 2 * k) ck) (2 + 2 * k) ((keysL key (es.take k)).map kV) ∧ Below w5.heap.size w5 wx)
        case first =>
          go_wp2_with fail
          go_loopw [14, 15] (fun kv i wr => ∃ (k : Nat) (pk : Option Addr) (ck : Nat), k ≤ es.length ∧ k ≤ 40 ∧ i = .int .i64 (k : Int) ∧ kv = .slice pk (2 + 2 * k) ck ∧ wr.ownsRow w5.heap.size 9 1 (.slice pk (2 + 2 * k) ck) (2 + 2 * k) ((keysL key (es.take k)).map kV) ∧ Below w5.heap.size w5 wr) (fun _ i _ => es.length - (intOf i).toNat)
          case atStart => exact ⟨0, some ⟨w5.heap.size, 0, none⟩, 2, by omega, by omega, rfl, rfl, by rw [← hwA]; exact HKs.out, HBA.out⟩
          case round =>
            obtain ⟨k, pk, ck, hk, hk40, rfl, rfl, hrow, hbr⟩ := hrel
            generalize wr = wz at *
            have HRow := Lib.hid hrow
            have HBr := Lib.hid hbr
            by_cases hlt : k < es.length ∧ k < 40
            · have d3 : decide ((k : Int) < (es.length : Int)) = true := decide_eq_true (by omega)
              have d3n : decide (k < es.length) = true := decide_eq_true hlt.1
              have d4 : decide ((k : Int) < 40) = true := decide_eq_true (by omega)
              have d4n : decide (k < 40) = true := decide_eq_true hlt.2
              obtain ⟨b1, off1, q1, c1, rfl, hbl, _, hV1, e0, g1, g2, g3⟩ := (HV.out.below (HB5.out.trans (hbr.mono HB5.out.size))).at_ (List.getElem?_eq_getElem hlt.1)
              obtain ⟨kx, hkx⟩ : ∃ kx, (es[k]'hlt.1).key = kx := ⟨_, rfl⟩
              rw [hkx] at e0
              have HKx := Lib.hid hkx
              obtain ⟨hlt1, hlt2⟩ := hlt
              have hkxl : kx.length ≤ 143472 := by have := wgt_mem es es[k] (List.getElem_mem hlt1); have := HWk.out; rw [← HKx.out]; omega
              have hadd : ∀ W : World, (Op.stringOp .add ⟨kx.toArray⟩ ⟨#[120]⟩).run Tryz.prog W = .ok (.string ⟨(kx ++ [120]).toArray⟩) W := fun W => run_string_add_lists W kx [120] (by omega) (by simp)
              obtain ⟨KX, hKX⟩ : ∃ KX, kx ++ [120] = KX := ⟨_, rfl⟩
              rw [hKX] at hadd
              have HKX := Lib.hid hKX
              obtain ⟨W, hW⟩ : ∃ W, wz.drew.alloc (.cells #[.string ⟨kx.toArray⟩, .string ⟨KX.toArray⟩] 9) = W := ⟨_, rfl⟩
              have hbW : Below wz.heap.size wz W := by rw [← hW]; exact (below_drew (Below.refl _ _)).alloc (Nat.le_refl _) _
              have HRw : Hid (W.ownsRow w5.heap.size 9 1 (.slice pk (2 + 2 * k) ck) (2 + 2 * k) ((keysL key (es.take k)).map kV)) := Lib.hid (row_after HRow.out hbW)
              have HCl : Hid (Cl W (fun _ => True) (.slice (some ⟨wz.heap.size, 0, none⟩) 2 2) 2 ([kx, KX].map kV)) := Lib.hid (by
                rw [← hW]
                exact Cl.new wz.drew (fun _ => True) 2 ([kx, KX].map kV) _ _ rfl (by omega) trivial)
              have HOne := Lib.hid (kV_one [kx, KX])
              have HSz : Hid (w5.heap.size ≤ W.heap.size) := Lib.hid (Nat.le_trans HBr.out.size hbW.size)
              have HbW := Lib.hid hbW
              have HSn : Hid ((keysL key (es.take (k + 1))).map kV = (keysL key (es.take k)).map kV ++ [kx, KX].map kV) := Lib.hid (by
                rw [take_snoc es k _ (List.getElem?_eq_getElem hlt1), keysL_snoc, HKx.out, HKX.out, List.map_append])
              clear g1 g2 g3 hV1 hkx hrow hbr hKX hbW
              go_wp2_with fail
              go_upto_region 15 with (fail)
              go_region_law
                (refine slStr.step_append rfl (.tmp 69) (.tmp 81) rfl w5.heap.size (v := .slice pk (2 + 2 * k) ck) (u := .slice (some ⟨wz.heap.size, 0, none⟩) 2 2) rfl rfl HRw.out HCl.out rfl HOne.out (by omega) HSz.out ?_
                 intro v' w3 ho3 hg3 ha3
                 obtain ⟨pk', ck', rfl, _, _⟩ := row_shape ho3
                 have HO3 := Lib.hid ho3
                 have HB3' : Hid (Below w5.heap.size w5 w3) := Lib.hid ((HBr.out.trans (HbW.out.mono HBr.out.size)).grown hg3 HSz.out (fun j hj => (World.ownsRow.lt HRw.out j hj).1))
                 clear ho3 hg3 ha3)
              all_goals
                go_wp2_with fail
                go_roundw
                case rel => exact ⟨k + 1, pk', ck', by omega, by omega, by go_num, by rw [show 2 + 2 * (k + 1) = 2 + 2 * k + 2 by omega], by rw [HSn.out, show 2 + 2 * (k + 1) = 2 + 2 * k + 2 by omega]; exact HO3.out, HB3'.out⟩
                case measure => simp [intOf]; omega
            · have hways : (decide ((k : Int) < (es.length : Int)) = false ∧ decide (k < es.length) = false) ∨ (decide ((k : Int) < (es.length : Int)) = true ∧ decide (k < es.length) = true ∧ decide ((k : Int) < 40) = false ∧ decide (k < 40) = false) := by
                rcases Nat.lt_or_ge k es.length with h1 | h1
                · exact .inr ⟨decide_eq_true (by omega), decide_eq_true h1, decide_eq_false (by omega), decide_eq_false (by omega)⟩
                · exact .inl ⟨decide_eq_false (by omega), decide_eq_false (by omega)⟩
              clear hrow hbr hlt
              rcases hways with ⟨d3, d3n⟩ | ⟨d3, d3n, d4, d4n⟩
              all_goals
                go_wp2_with fail
                go_meet
                exact ⟨k, pk, ck, hk, hk40, rfl, HRow.out, HBr.out⟩
        case rest =>
          obtain ⟨k, pk, ck, hk, hk40, rfl, hrow, hbr⟩ := hcut
          generalize wc = wz at *
          obtain ⟨ks, hks⟩ : ∃ ks, keysL key (es.take k) = ks := ⟨_, rfl⟩
          have hkl3 : ks.length = 2 + 2 * k := by rw [← hks, keysL_len, List.length_take, Nat.min_eq_left hk]
          have hkle : ∀ s ∈ ks, s.length ≤ 200000 := by
            rw [← hks]
            exact keysL_le (by omega) fun e he => by have := wgt_mem es e (List.mem_of_mem_take he); have := HWk.out; omega
          rw [hks] at hrow
          have hcl : Cl wz (fun _ => True) (.slice pk (2 + 2 * k) ck) (2 + 2 * k) (ks.map kV) := Cl.of_own hrow (by omega) (fun _ _ => trivial) (by simp [hkl3])
          obtain ⟨kb, ko, rfl, y1, y2, y3⟩ := hcl.at_ (j := 0) (x := (ks.map kV)[0]'(by simp [hkl3]; omega)) (List.getElem?_eq_getElem _)
          clear y1 y2 y3
          have HAt : Hid (∀ (V : World), Below wz.heap.size wz V → ∀ (j : Nat) (hj : j < ks.length), V.cell? ⟨kb, ko + j, none⟩ = some (.string ⟨(ks[j]'hj).toArray⟩)) := Lib.hid (fun V hV j hj => by
            obtain ⟨b, off, e, _, _, hc⟩ := (Cl.below hcl hV).at_ (j := j) (x := kV (ks[j]'hj)) (by rw [List.getElem?_map, List.getElem?_eq_getElem hj]; rfl)
            obtain ⟨rfl, rfl⟩ : kb = b ∧ ko = off := by simpa using e
            exact hc)
          have HKl := Lib.hid hkle
          have hbz := HB5.out.trans (hbr.mono HB5.out.size)
          have HBz := Lib.hid hbz
          have HTz := Lib.hid (HT5.out.below hbr)
          obtain ⟨pe, ce, us, pk2, ck2, qf, cf, hr1, hr2, hr3⟩ := HR5.out.out
          have Hr1 := Lib.hid ((hbr.block _ (block_lt hr1)).trans hr1)
          have Hr3 := Lib.hid (hr3.after hbr)
          have hfl := filB_len HSh1.out
          have hf8 := filB_8 es
          obtain ⟨nk, hnk⟩ : ∃ nk, 2 + 2 * k = nk := ⟨_, rfl⟩
          have HNk : Hid (ks.length = nk) := Lib.hid (by rw [hkl3, hnk])
          have hnk9 : nk ≤ 100 := by omega
          rw [hnk]
          clear hrow hcl hks hkl3 hkle hbz hr1 hr2 hr3 hbr HT5 HR5 hnk
          go_wp2_with fail
          go_loopw [16] (fun i wr => ∃ j : Nat, j ≤ nk ∧ i = .int .i64 (j : Int) ∧ Below wz.heap.size wz wr) (fun i _ => nk - (intOf i).toNat)
          case atStart => exact ⟨0, by omega, rfl, Below.refl _ _⟩
          case round =>
            obtain ⟨j, hj, rfl, hbj⟩ := hrel
            generalize wr = wx at *
            have HBj := Lib.hid hbj
            have HWx : Hid (Below w.heap.size w wx) := Lib.hid (HBz.out.trans (hbj.mono HBz.out.size))
            by_cases hjn : j < nk
            · have e3 : decide ((j : Int) < (nk : Int)) = true := decide_eq_true (by omega)
              have e3n : decide (j < nk) = true := decide_eq_true hjn
              have HJn : Hid (j + 1 ≤ nk) := Lib.hid hjn
              have hjk : j < ks.length := by rw [HNk.out]; exact hjn
              obtain ⟨s, hs⟩ : ∃ s, ks[j]'hjk = s := ⟨_, rfl⟩
              have hsl : s.length ≤ 200000 := by rw [← hs]; exact HKl.out _ (List.getElem_mem hjk)
              have HKey : Hid (∀ V : World, Below wx.heap.size wx V → V.cell? ⟨kb, ko + j, none⟩ = some (.string ⟨s.toArray⟩)) := Lib.hid (fun V hV => by rw [HAt.out V (hbj.trans (hV.mono hbj.size)) j hjk, hs])
              have c0 := HKey.out wx (Below.refl _ _)
              have hgn := get_newest HSr.out s up
              obtain ⟨o, ho⟩ : ∃ o, newestE es s up = o := ⟨_, rfl⟩
              rw [ho] at hgn
              have HGet := Lib.hid (fun (V : World) (hV : Below wx.heap.size wx V) => (by
                have := get_any V base tb bks.length es s up (HTz.out.below (hbj.trans (hV.mono hbj.size))) HSh1.out HSr.out hl
                rw [hgn] at this
                exact this))
              have HNew := Lib.hid (fun (V : World) (hV : Below wx.heap.size wx V) => (by
                have := r5_newest V _ _ es (HV.out.below (HWx.out.trans (hV.mono HWx.out.size))) s up
                rw [ho] at this
                exact this))
              obtain ⟨x, hx⟩ : ∃ x, optE o = x := ⟨_, rfl⟩
              obtain ⟨bb, hbb⟩ : ∃ bb, o.isSome = bb := ⟨_, rfl⟩
              rw [hx, hbb] at HGet HNew
              have HG0 := Lib.hid (HGet.out wx (Below.refl _ _))
              clear hgn ho hx hbb hs hbj HGet
              go_wp2_with fail
              refine HG0.out.mono ?_
              rintro y w6 ⟨q6, c6, rfl, hby6, hb6⟩
              have HBy6 := Lib.hid hby6
              have hz6 := heap_alloc_new w6 (.cells #[.string ⟨#[]⟩, .int .u64 0, .bool false, .slice none 0 0] 37)
              obtain ⟨Y6, hY6⟩ : ∃ Y, w6.alloc (.cells #[.string ⟨#[]⟩, .int .u64 0, .bool false, .slice none 0 0] 37) = Y := ⟨_, rfl⟩
              have hbY6 : Below w6.heap.size w6 Y6 := by rw [← hY6]; exact below_alloc _ _
              rw [hY6] at hz6
              have f60 := frozen_of (i := 0) hz6
              have f61 := frozen_of (i := 1) hz6
              have f62 := frozen_of (i := 2) hz6
              have f63 := frozen_of (i := 3) hz6
              have u60 := cell_of (i := 0) hz6 rfl
              have u61 := cell_of (i := 1) hz6 rfl
              have u62 := cell_of (i := 2) hz6 rfl
              have u63 := cell_of (i := 3) hz6 rfl
              obtain ⟨X6, hX6⟩ : ∃ X, set4 Y6 w6.heap.size (.string ⟨x.key.toArray⟩) (.int .u64 (x.seq : Int)) (.bool x.gone) (.slice q6 x.val.length c6) = X := ⟨_, rfl⟩
              have hbX6 : Below w6.heap.size w6 X6 := by rw [← hX6]; exact hbY6.trans ((set4_fr Y6 w6.heap.size _ _ _ _ (fun k => k = w6.heap.size) rfl).below hbY6.size (fun k hk e => by omega))
              have hXa6 : X6.heap[w6.heap.size]? = some (.cells #[.string ⟨x.key.toArray⟩, .int .u64 (x.seq : Int), .bool x.gone, .slice q6 x.val.length c6] 37 (0, 0)) := by rw [← hX6]; exact set4_heap hz6 _ _ _ _
              unfold set4 at hX6
              have HXa6 := Lib.hid hXa6
              have hbw6 : Below wx.heap.size wx X6 := hb6.trans (hbX6.mono hb6.size)
              have HbX6 := Lib.hid hbX6
              have HBw6 := Lib.hid hbw6
              have HN6 := Lib.hid (HNew.out X6 hbw6)
              have c1 := HKey.out X6 hbw6
              clear hby6 hb6 hz6 hbY6 hbX6 hXa6 hbw6 HNew HG0
              go_wp2_with fail
              refine HN6.out.mono ?_
              rintro y w7 ⟨q7, c7, rfl, hby7, hb7'⟩
              have HBy7 := Lib.hid hby7
              have hb7 : Below wx.heap.size wx w7 := HBw6.out.trans (hb7'.mono HBw6.out.size)
              have hb67 : Below w6.heap.size w6 w7 := HbX6.out.trans (hb7'.mono HbX6.out.size)
              have h6lt := block_lt HXa6.out
              have hq6 := (hb7'.block _ h6lt).trans HXa6.out
              have HQ6 := Lib.hid hq6
              have HB67 := Lib.hid hb67
              have hz7 := heap_alloc_new w7 (.cells #[.string ⟨#[]⟩, .int .u64 0, .bool false, .slice none 0 0] 37)
              obtain ⟨Y7, hY7⟩ : ∃ Y, w7.alloc (.cells #[.string ⟨#[]⟩, .int .u64 0, .bool false, .slice none 0 0] 37) = Y := ⟨_, rfl⟩
              have hbY7 : Below w7.heap.size w7 Y7 := by rw [← hY7]; exact below_alloc _ _
              rw [hY7] at hz7
              have f70 := frozen_of (i := 0) hz7
              have f71 := frozen_of (i := 1) hz7
              have f72 := frozen_of (i := 2) hz7
              have f73 := frozen_of (i := 3) hz7
              have u70 := cell_of (i := 0) hz7 rfl
              have u71 := cell_of (i := 1) hz7 rfl
              have u72 := cell_of (i := 2) hz7 rfl
              have u73 := cell_of (i := 3) hz7 rfl
              obtain ⟨X7, hX7⟩ : ∃ X, set4 Y7 w7.heap.size (.string ⟨x.key.toArray⟩) (.int .u64 (x.seq : Int)) (.bool x.gone) (.slice q7 x.val.length c7) = X := ⟨_, rfl⟩
              have hbX7 : Below w7.heap.size w7 X7 := by rw [← hX7]; exact hbY7.trans ((set4_fr Y7 w7.heap.size _ _ _ _ (fun k => k = w7.heap.size) rfl).below hbY7.size (fun k hk e => by omega))
              have hXa7 : X7.heap[w7.heap.size]? = some (.cells #[.string ⟨x.key.toArray⟩, .int .u64 (x.seq : Int), .bool x.gone, .slice q7 x.val.length c7] 37 (0, 0)) := by rw [← hX7]; exact set4_heap hz7 _ _ _ _
              unfold set4 at hX7
              have HXa7 := Lib.hid hXa7
              have hbw7 : Below wx.heap.size wx X7 := hb7.trans (hbX7.mono hb7.size)
              have HbX7 := Lib.hid hbX7
              have HBw7 := Lib.hid hbw7
              have h6l7 : w6.heap.size < w7.heap.size := block_lt hq6
              have HXq6 : Hid (X7.heap[w6.heap.size]? = some (.cells #[.string ⟨x.key.toArray⟩, .int .u64 (x.seq : Int), .bool x.gone, .slice q6 x.val.length c6] 37 (0, 0))) := Lib.hid ((hbX7.block _ h6l7).trans hq6)
              have HByA := Lib.hid ((HBy6.out.below hb67).below hbX7)
              have HByB := Lib.hid (HBy7.out.below hbX7)
              have HW7 : Hid (Below w.heap.size w X7) := Lib.hid (HWx.out.trans (hbw7.mono HWx.out.size))
              have HZ7 : Hid (Below wz.heap.size wz X7) := Lib.hid (HBj.out.trans (hbw7.mono HBj.out.size))
              obtain ⟨m, hm⟩ : ∃ m, fromE s es = m := ⟨_, rfl⟩
              have hpf := plc_from s es (fun e he => HSh1.out.1 e he)
              have hml : m ≤ es.length := by rw [← hm, ← hpf]; exact plcE_le _ _
              rw [hm] at hpf
              obtain ⟨mb, hmb⟩ : ∃ mb, mayK (filB es) s 4 = mb := ⟨_, rfl⟩
              have HS := Lib.hid (fun (V : World) (hV : Below X7.heap.size X7 V) =>
                (⟨cell_of (i := 0) ((hV.block _ (block_lt HXq6.out)).trans HXq6.out) rfl, cell_of (i := 1) ((hV.block _ (block_lt HXq6.out)).trans HXq6.out) rfl, cell_of (i := 2) ((hV.block _ (block_lt HXq6.out)).trans HXq6.out) rfl, cell_of (i := 3) ((hV.block _ (block_lt HXq6.out)).trans HXq6.out) rfl,
                  cell_of (i := 0) ((hV.block _ (block_lt HXa7.out)).trans HXa7.out) rfl, cell_of (i := 1) ((hV.block _ (block_lt HXa7.out)).trans HXa7.out) rfl, cell_of (i := 2) ((hV.block _ (block_lt HXa7.out)).trans HXa7.out) rfl, cell_of (i := 3) ((hV.block _ (block_lt HXa7.out)).trans HXa7.out) rfl,
                  HKey.out V (HBw7.out.trans (hV.mono HBw7.out.size)), cell_of (i := 2) (((HZ7.out.trans (hV.mono HZ7.out.size)).block _ (block_lt Hr1.out)).trans Hr1.out) rfl⟩ :
                V.cell? ⟨w6.heap.size, 0, none⟩ = some (.string ⟨x.key.toArray⟩) ∧ V.cell? ⟨w6.heap.size, 1, none⟩ = some (.int .u64 (x.seq : Int)) ∧ V.cell? ⟨w6.heap.size, 2, none⟩ = some (.bool x.gone) ∧ V.cell? ⟨w6.heap.size, 3, none⟩ = some (.slice q6 x.val.length c6) ∧
                V.cell? ⟨w7.heap.size, 0, none⟩ = some (.string ⟨x.key.toArray⟩) ∧ V.cell? ⟨w7.heap.size, 1, none⟩ = some (.int .u64 (x.seq : Int)) ∧ V.cell? ⟨w7.heap.size, 2, none⟩ = some (.bool x.gone) ∧ V.cell? ⟨w7.heap.size, 3, none⟩ = some (.slice q7 x.val.length c7) ∧
                V.cell? ⟨kb, ko + j, none⟩ = some (.string ⟨s.toArray⟩) ∧ V.cell? ⟨rb, 2, none⟩ = some (.slice qf (filB es).length cf)))
              have hse := sameE_refl x
              have HSame := Lib.hid (fun (V : World) (hV : Below X7.heap.size X7 V) => l5_same V x x _ _ q6 q7 c6 c7 (HByA.out.below hV) (HByB.out.below hV))
              rw [hse] at HSame
              have HMay := Lib.hid (fun (V : World) (hV : Below X7.heap.size X7 V) => tmay_any V base tb bks.length es s (HTz.out.below (HZ7.out.trans (hV.mono HZ7.out.size))) HSh1.out (by omega) (HT.out.under (HW7.out.trans (hV.mono HW7.out.size)) HT.out.two))
              have HRMay := Lib.hid (fun (V : World) (hV : Below X7.heap.size X7 V) => refMay_any V V.heap.size qf cf (filB es) s ((Hr3.out.after (HZ7.out.trans (hV.mono HZ7.out.size))).rd (by omega)) (Nat.le_refl _) hf8 hfl (by omega))
              have HFrom := Lib.hid (fun (V : World) (hV : Below X7.heap.size X7 V) => lfrom_any V base tb bks.length es s (HTz.out.below (HZ7.out.trans (hV.mono HZ7.out.size))) HSh1.out HSr.out hl)
              have HRFrom := Lib.hid (fun (V : World) (hV : Below X7.heap.size X7 V) => r5_from V _ _ es (HV.out.below (HW7.out.trans (hV.mono HW7.out.size))) s)
              obtain ⟨q8, c8, hent8, hrun8⟩ := (HV.out.below HW7.out).from_ (i := m) hml
              have hsl8 : sameL (es.drop m) (es.drop m) = true := sameL_iff.2 rfl
              have HSR := Lib.hid (fun (V : World) (G : Nat → Prop) (u : Value) (hu : En V G u (es.drop m)) (hV : Below X7.heap.size X7 V) => l5_sameRows V G _ u (.slice q8 (es.length - m) c8) (es.drop m) (es.drop m) hu (hent8.below hV))
              rw [hsl8] at HSR
              rw [hpf] at HFrom
              rw [hm] at HRFrom
              rw [hmb] at HMay HRMay
              have t1 : (bb != bb) = false := by simp
              have t2 : (mb != mb) = false := by simp
              have HB0 : Hid (Below X7.heap.size X7 X7.drew) := Lib.hid (below_drew (Below.refl _ _))
              have hS0 := HS.out X7 (Below.refl _ _)
              obtain ⟨s0, s1, s2, s3, s4, s5, s6, s7, s8, s9⟩ := hS0
              clear hby7 hb7' hb7 hb67 hq6 hz7 hbY7 hbX7 hXa7 hbw7 hm hpf hmb hse hent8 hsl8 c0 c1 HN6
              generalize (filB es).length = nf at *
              go_wp2_with fail
              go_upto_region 21 with (fail)
              go_cut [157] (fun sl w' => sl = .bool false ∧ Hid (Below wx.heap.size wx w'))
              case first =>
                rcases Nat.lt_or_ge j 6 with h6 | h6
                · have d6 : decide ((j : Int) < 6) = true := decide_eq_true (by omega)
                  have d6n : decide (j < 6) = true := decide_eq_true h6
                  clear h6
                  go_region_held3 (fun w' => w'.cell? ⟨w6.heap.size, 0, none⟩ = some (.string ⟨x.key.toArray⟩) ∧ w'.cell? ⟨w6.heap.size, 1, none⟩ = some (.int .u64 (x.seq : Int)) ∧ w'.cell? ⟨w6.heap.size, 2, none⟩ = some (.bool x.gone) ∧ w'.cell? ⟨w6.heap.size, 3, none⟩ = some (.slice q6 x.val.length c6) ∧
                      w'.cell? ⟨w7.heap.size, 0, none⟩ = some (.string ⟨x.key.toArray⟩) ∧ w'.cell? ⟨w7.heap.size, 1, none⟩ = some (.int .u64 (x.seq : Int)) ∧ w'.cell? ⟨w7.heap.size, 2, none⟩ = some (.bool x.gone) ∧ w'.cell? ⟨w7.heap.size, 3, none⟩ = some (.slice q7 x.val.length c7) ∧
                      w'.cell? ⟨kb, ko + j, none⟩ = some (.string ⟨s.toArray⟩) ∧ w'.cell? ⟨rb, 2, none⟩ = some (.slice qf nf cf))
                    (first | exact ⟨s0, s1, s2, s3, s4, s5, s6, s7, s8, s9⟩ | exact hA | exact hB | exact hC | exact hD | exact hE)
                    (first
                    | (go_at_call 12
                       refine (HSame.out _ HB0.out).mono ?_
                       rintro e wA ⟨rfl, hb2⟩
                       have HBa : Hid (Below X7.heap.size X7 wA) := Lib.hid (HB0.out.trans (hb2.mono HB0.out.size))
                       have hA := HS.out wA HBa.out
                       clear hb2)
                    | (go_at_call 13
                       refine (HMay.out _ HBa.out).mono ?_
                       rintro e wB ⟨rfl, hb2⟩
                       have HBb : Hid (Below X7.heap.size X7 wB) := Lib.hid (HBa.out.trans (hb2.mono HBa.out.size))
                       have hB := HS.out wB HBb.out
                       clear hb2)
                    | (go_at_call 14
                       refine (HRMay.out _ HBb.out).mono ?_
                       rintro e wC ⟨rfl, hb2⟩
                       have HBc : Hid (Below X7.heap.size X7 wC) := Lib.hid (HBb.out.trans (hb2.mono HBb.out.size))
                       have hC := HS.out wC HBc.out
                       clear hb2)
                    | (go_at_call 16
                       refine (HFrom.out _ HBc.out).mono ?_
                       rintro e wD ⟨vD, rfl, heD, hb2⟩
                       have HBd : Hid (Below X7.heap.size X7 wD) := Lib.hid (HBc.out.trans (hb2.mono HBc.out.size))
                       have hD := HS.out wD HBd.out
                       have HSD := Lib.hid (HSR.out wD _ vD heD HBd.out)
                       have HRD := Lib.hid (HRFrom.out wD HBd.out)
                       clear hb2 heD)
                    | (go_at_call 17
                       refine HRD.out.mono ?_
                       rintro e wE ⟨rfl, rfl⟩)
                    | (go_at_call 15
                       refine HSD.out.mono ?_
                       rintro e wE ⟨rfl, hb4⟩
                       have HBe : Hid (Below X7.heap.size X7 wE) := Lib.hid (HBd.out.trans (hb4.mono HBd.out.size))
                       have hE := HS.out wE HBe.out
                       clear hb4))
                  all_goals
                    go_wp2_with fail
                    go_meet
                    first
                      | exact ⟨rfl, Lib.hid (HBw7.out.trans (HBe.out.mono HBw7.out.size))⟩
                      | exact ⟨rfl, Lib.hid (HBw7.out.trans (HBc.out.mono HBw7.out.size))⟩
                · have d6 : decide ((j : Int) < 6) = false := decide_eq_false (by omega)
                  have d6n : decide (j < 6) = false := decide_eq_false (by omega)
                  clear h6
                  have s0' := fun d os => cell_regrown s0 d os
                  have s1' := fun d os => cell_regrown s1 d os
                  have s2' := fun d os => cell_regrown s2 d os
                  have s3' := fun d os => cell_regrown s3 d os
                  have s4' := fun d os => cell_regrown s4 d os
                  have s5' := fun d os => cell_regrown s5 d os
                  have s6' := fun d os => cell_regrown s6 d os
                  have s7' := fun d os => cell_regrown s7 d os
                  have s8' := fun d os => cell_regrown s8 d os
                  have s9' := fun d os => cell_regrown s9 d os
                  clear s0 s1 s2 s3 s4 s5 s6 s7 s8 s9 hX6 hX7 hY6 hY7 f60 f61 f62 f63 u60 u61 u62 u63 f70 f71 f72 f73 u70 u71 u72 u73
                  refine wp_region_quiet_below (by kernel_rfl) (by kernel_rfl) ?_
                  repeat (go_big_quiet_step (first | (go_at_call 12; exact Calls.regrown_of (HSame.out _ (below_regrown _ _ _))) | (go_at_call 13; exact Calls.regrown_of (HMay.out _ (below_regrown _ _ _))) | (go_at_call 14; exact Calls.regrown_of (HRMay.out _ (below_regrown _ _ _)))))
                  refine wpQuiet_nil ?_
                  intro w8 hw8
                  obtain ⟨⟨dq, osq⟩, hw9⟩ := hw8
                  subst hw9
                  have HB8 : Hid (Below X7.heap.size X7 (Go.Sort.grow (redrawn X7 dq) osq)) := Lib.hid (below_regrown X7 dq osq)
                  go_wp2_with fail
                  go_meet
                  exact ⟨rfl, Lib.hid (HBw7.out.trans (HB8.out.mono HBw7.out.size))⟩
              case rest =>
                obtain ⟨rfl, hbc⟩ := hcut
                clear t1 t2 s0 s1 s2 s3 s4 s5 s6 s7 s8 s9
                go_wp2_with fail
                go_roundw
                case rel => exact ⟨j + 1, HJn.out, by go_num, HBj.out.trans (hbc.out.mono HBj.out.size)⟩
                case measure => have := HJn.out; simp [intOf]; omega
            · have e3 : decide ((j : Int) < (nk : Int)) = false := decide_eq_false (by omega)
              have e3n : decide (j < nk) = false := decide_eq_false hjn
              clear hjn hbj
              go_wp2_with fail
              go_ret
              exact ⟨rfl, HWx.out⟩
      · have d3 : ((rn : Int) != 0) = true := by rw [bne_iff_ne]; omega
        clear hn hb3 HC2 HOp
        go_wp2_with fail
        go_ret
        exact ⟨rfl, HB3.out⟩
end Go.Proofs.YtagehnclkneolaaGreatDoor
