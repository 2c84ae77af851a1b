/-
  The walk over glacierlaw6.MergeParts.
-/
import Derived.Test.YtaomneenflkpeaaMhH
namespace Go.Proofs.Ytaomneenflkpeaa
open Go.RowKit

set_option maxRecDepth 100000 in
set_option maxHeartbeats 8000000 in
theorem parts_any (w : World) (v0 v1 : Value) (l : List Ent) (ps : List Int) (h0 : En w (fun k => k < w.heap.size) v0 l) (hf : ∀ x ∈ l, FitE x) (hl : l.length ≤ 1048576)
    (h1 : Cl w (fun k => k < w.heap.size) v1 ps.length (ps.map (Value.int .i64))) (hps : ∀ n ∈ ps, -9223372036854775808 ≤ n ∧ n ≤ 9223372036854775807) (_ : ps.length ≤ 1048576) :
    Calls Try.prog 4 #[v0, v1] w fun r W' => r = .returned (.bool true) ∧ Below w.heap.size w W' := by
  obtain ⟨p0, c0, rfl, hc0, _, hm0, _⟩ := h0.form
  obtain ⟨p1, c1, rfl, hc1, _, hm1, _⟩ := h1.form
  have H0 := Lib.hid h0
  have H1 := Lib.hid h1
  have HPs := Lib.hid hps
  have HF := Lib.hid hf
  have HKn := Lib.hid (mg_known w)
  obtain ⟨fw, hfw⟩ : ∃ fw, fewE l 1000 = fw := ⟨_, rfl⟩
  have HFw := Lib.hid hfw
  obtain ⟨rt, hrt⟩ : ∃ rt, rightE l = rt := ⟨_, rfl⟩
  have HRt := Lib.hid hrt
  clear h0 h1 hf hfw hps hrt
  go_enter Try.func4, Try.ntmps4
  go_wp2_with fail
  refine HKn.out.mono ?_
  rintro r w1 ⟨rfl, hb1⟩
  have hfew := l5_few w1 _ _ l (H0.out.below hb1) HF.out hl 1000
  rw [HFw.out] at hfew
  have HFew := Lib.hid hfew
  have HB1 := Lib.hid hb1
  clear hb1 hfew HKn
  cases fw
  · go_wp2_with fail
    refine HFew.out.mono ?_
    rintro r w2 ⟨rfl, nq, rfl⟩
    have HB2 : Hid (Below w.heap.size w (w1.drewN nq)) := Lib.hid (below_drewN HB1.out _)
    go_wp2_with fail
    go_ret
    exact ⟨rfl, HB2.out⟩
  · have hl1000 := few_len HFw.out
    go_wp2_with fail
    refine HFew.out.mono ?_
    rintro r w2' ⟨rfl, nq, rfl⟩
    obtain ⟨w2, hw2⟩ : ∃ w2, w1.drewN nq = w2 := ⟨_, rfl⟩
    have HB2 : Hid (Below w.heap.size w w2) := Lib.hid (by rw [← hw2]; exact below_drewN HB1.out _)
    rw [hw2]
    clear hw2 HFew HB1
    have hrg := mg_right w2 _ _ l (H0.out.below HB2.out)
    rw [HRt.out] at hrg
    have HRg := Lib.hid hrg
    clear hrg
    cases rt
    · go_wp2_with fail
      refine HRg.out.mono ?_
      rintro r w3 ⟨rfl, hb3⟩
      have HB3 := Lib.hid (HB2.out.trans (hb3.mono HB2.out.size))
      go_wp2_with fail
      go_ret
      exact ⟨rfl, HB3.out⟩
    · go_wp2_with fail
      refine HRg.out.mono ?_
      rintro r w3 ⟨rfl, hb3⟩
      have HB3 := Lib.hid (HB2.out.trans (hb3.mono HB2.out.size))
      clear hb3 HRg HB2
      obtain ⟨us, hus⟩ := H0.out
      have hul : us.length = l.length := hus.len
      have HU : Hid (∀ (i : Nat) (e : Ent) (u : Value), l[i]? = some e → us[i]? = some u → By w (fun k => k < w.heap.size) u e.val) := Lib.hid hus.val
      have HC : Hid (Cl w (fun k => k < w.heap.size) (.slice p0 l.length c0) l.length (cellsE l us)) := Lib.hid hus.cl
      obtain ⟨X, hX⟩ : ∃ X, w3.alloc (.cells #[.slice none 0 0, .slice none 0 0, .slice none 0 0, .slice none 0 0, .slice none 0 0, .slice none 0 0, .slice none 0 0] 45) = X := ⟨_, rfl⟩
      have HSt := Lib.hid (PrtM.start (w := w) (plc7 ps) l us hX HB3.out HB3.out.size)
      obtain ⟨ab, hab⟩ : ∃ ab, w3.heap.size = ab := ⟨_, rfl⟩
      have HAb := Lib.hid hab
      have HUs := Lib.hid hus
      clear hus
      go_wp2_with fail
      rw [hab] at HSt
      clear hX hab
      go_loopg [6] l.length (fun g iv wr => ∃ (k : Nat) (vs : Nat → Value), k + g = l.length ∧ iv = .int .i64 (k : Int) ∧ PrtM w w.heap.size ab (plc7 ps) l us k wr vs)
      case atStart => exact ⟨0, _, by omega, rfl, HSt.out⟩
      case round =>
        obtain ⟨k, vs, hkg, rfl, hpm⟩ := hrel
        have HP := Lib.hid hpm
        clear hpm
        cases gk with
        | zero =>
          have hk : k = l.length := by omega
          subst hk
          have HEn : Hid (∀ V, Below wr.heap.size wr V → ∀ j, En V (fun _ => True) (vs j) (prtL (plc7 ps) l l.length j)) := Lib.hid (fun V hV j => (HP.out.en hul rfl HU.out (by omega) j).below hV)
          have HOk : Hid (∀ V v, Els V (fun _ => True) v (svnL (plc7 ps) l l.length) → Calls Try.prog 18 #[v] V fun r w' => ∃ p c, r = .returned (.tuple #[.slice p l.length c, .int .i64 0]) ∧ En w' (fun _ => True) (.slice p l.length c) l ∧ Below V.heap.size V w') := Lib.hid (fun V v hE => by
            have h9 := mg_seven V v _ hE (fun p hp => by
              obtain ⟨j, rfl⟩ := svnL_of _ _ _ p hp
              exact prtL_right _ l HRt.out _ _) (fun p hp x hx => by
              obtain ⟨j, rfl⟩ := svnL_of _ _ _ p hp
              exact HF.out x (prtL_mem _ _ _ _ x hx)) rfl (fun p hp => by
              obtain ⟨j, rfl⟩ := svnL_of _ _ _ p hp
              have := prtL_len (plc7 ps) l l.length j
              omega)
            rw [parts_merged (plc7 ps) (plc7_lt ps) l (rightE_iff.1 HRt.out).2] at h9
            exact h9)
          obtain ⟨p_0, c_0, h_0, _, _⟩ := row_shape (HP.out.row 0)
          obtain ⟨p_1, c_1, h_1, _, _⟩ := row_shape (HP.out.row 1)
          obtain ⟨p_2, c_2, h_2, _, _⟩ := row_shape (HP.out.row 2)
          obtain ⟨p_3, c_3, h_3, _, _⟩ := row_shape (HP.out.row 3)
          obtain ⟨p_4, c_4, h_4, _, _⟩ := row_shape (HP.out.row 4)
          obtain ⟨p_5, c_5, h_5, _, _⟩ := row_shape (HP.out.row 5)
          obtain ⟨p_6, c_6, h_6, _, _⟩ := row_shape (HP.out.row 6)
          have hbl := HP.out.blk
          have HEls := Lib.hid (fun V (hV : Below wr.heap.size wr V) => Els.seven (HEn.out V hV))
          unfold svnC at hbl HEls
          rw [h_0, h_1, h_2, h_3, h_4, h_5, h_6] at hbl HEls
          have HBr := Lib.hid HP.out.low
          have HE0 : Hid (∀ V, Below w.heap.size w V → En V (fun _ => True) (.slice p0 l.length c0) l) := Lib.hid (fun V hV => (H0.out.below hV).mono fun _ _ _ => trivial)
          have HSa : Hid (∀ V F G v u l, En V F v l → En V G u l → Calls Try.prog 19 #[v, u] V fun r w' => r = .returned (.bool true) ∧ Below V.heap.size V w') := Lib.hid (fun V F G v u l h1 h2 => by
            have h := l5_sameRows V F G v u l l h1 h2
            rw [sameL_iff.2 rfl] at h
            exact h)
          clear h_0 h_1 h_2 h_3 h_4 h_5 h_6 HEn HP
          have k_0 := cell_of (i := 0) hbl rfl
          have k_1 := cell_of (i := 1) hbl rfl
          have k_2 := cell_of (i := 2) hbl rfl
          have k_3 := cell_of (i := 3) hbl rfl
          have k_4 := cell_of (i := 4) hbl rfl
          have k_5 := cell_of (i := 5) hbl rfl
          have k_6 := cell_of (i := 6) hbl rfl
          clear hbl
          generalize (prtL (plc7 ps) l l.length 0).length = n_0 at *
          generalize (prtL (plc7 ps) l l.length 1).length = n_1 at *
          generalize (prtL (plc7 ps) l l.length 2).length = n_2 at *
          generalize (prtL (plc7 ps) l l.length 3).length = n_3 at *
          generalize (prtL (plc7 ps) l l.length 4).length = n_4 at *
          generalize (prtL (plc7 ps) l l.length 5).length = n_5 at *
          generalize (prtL (plc7 ps) l l.length 6).length = n_6 at *
          go_wp2_with fail
          refine (HOk.out _ _ (HEls.out _ (Below.refl _ _))).mono ?_
          rintro r w5 ⟨p5, c5, rfl, hE5, hb5⟩
          have hs5 : Below wr.heap.size wr w5 := ((Below.refl _ wr).alloc (Nat.le_refl _) _).trans (hb5.mono (by simp))
          have HB5 := Lib.hid (HBr.out.trans (hs5.mono HBr.out.size))
          have HSm := Lib.hid (HSa.out w5 _ _ _ _ _ hE5 (HE0.out w5 HB5.out))
          clear hE5 hb5 hs5
          go_wp2_with fail
          refine HSm.out.mono ?_
          rintro r w6 ⟨rfl, hb6⟩
          have HB6 := Lib.hid (HB5.out.trans (hb6.mono HB5.out.size))
          clear hb6
          go_wp2_with fail
          go_ret
          exact ⟨rfl, HB6.out⟩
        | succ m =>
          have hlt : k < l.length := by omega
          obtain ⟨b, off, q, c, rfl, hb, _, hu, _, e0, e1, e2, e3⟩ := HUs.out.at_ (List.getElem?_eq_getElem hlt)
          have x0 := (below_cells HP.out.low b _ hb).trans e0
          have x1 := (below_cells HP.out.low b _ hb).trans e1
          have x2 := (below_cells HP.out.low b _ hb).trans e2
          have x3 := (below_cells HP.out.low b _ hb).trans e3
          have HUk := Lib.hid hu
          clear hu e0 e1 e2 e3
          obtain ⟨n, hn⟩ : ∃ n, plc7 ps k = n := ⟨_, rfl⟩
          have hn7 : n < 7 := by rw [← hn]; exact plc7_lt ps k
          have HN := Lib.hid hn
          generalize hkp : decide ((k : Int) < (ps.length : Int)) = kp
          have HKp := Lib.hid hkp
          clear hn hkp
          go_upto_if 29 with (fail)
          go_cut [7] (fun a wx => a = .int .i64 (n : Int) ∧ wr = wx)
          case first =>
            by_cases hkl : k < ps.length
            · have hp0 : ps[k]? = some ps[k] := List.getElem?_eq_getElem hkl
              obtain ⟨b9, off9, rfl, hb9, _, hc9⟩ := H1.out.at_ (j := k) (x := .int .i64 ps[k]) (by rw [List.getElem?_map, hp0]; rfl)
              have z9 := (below_cells HP.out.low b9 _ hb9).trans hc9
              have hpb := HPs.out ps[k] (List.getElem_mem hkl)
              have HN2 : Hid ((ps[k].tmod 7).natAbs = n) := Lib.hid (by rw [← HN.out]; unfold plc7; rw [hp0])
              generalize ps[k] = p at *
              have t1 := Int.tmod_lt_of_pos p (show (0 : Int) < 7 by omega)
              have t2 := Int.lt_tmod_of_pos p (show (0 : Int) < 7 by omega)
              clear hp0 hc9
              go_upto_if 36 with (fail)
              generalize p.tmod 7 = r at *
              by_cases hneg : r < 0
              · have HW : Hid (-r = (n : Int)) := Lib.hid (by have := HN2.out; omega)
                go_wp2_with fail
                go_meet
                exact ⟨by have := HW.out; go_num, rfl⟩
              · have HW : Hid (r = (n : Int)) := Lib.hid (by have := HN2.out; omega)
                go_wp2_with fail
                go_meet
                exact ⟨by rw [HW.out], rfl⟩
            · have HN2 : Hid (n = 0) := Lib.hid (by rw [← HN.out]; unfold plc7; rw [List.getElem?_eq_none (by omega)])
              go_wp2_with fail
              go_meet
              exact ⟨by rw [HN2.out]; rfl, rfl⟩
          case rest =>
            obtain ⟨rfl, rfl⟩ := hcut
            obtain ⟨pn, cn, hvn, _, _⟩ := row_shape (HP.out.row n)
            obtain ⟨W0, hW0⟩ : ∃ W0, wr.drew = W0 := ⟨_, rfl⟩
            obtain ⟨X, hX⟩ : ∃ X, W0.alloc (.cells #[.string ⟨l[k].key.toArray⟩, .int .u64 (l[k].seq : Int), .bool l[k].gone, .slice q l[k].val.length c] 30) = X := ⟨_, rfl⟩
            have hb0 : Below wr.heap.size wr W0 := by rw [← hW0]; exact below_drew (Below.refl _ _)
            have hbX : Below wr.heap.size wr X := by rw [← hX]; exact hb0.alloc hb0.size _
            have hbl : W0.heap[ab]? = some (.cells (svnC vs) 45 (0, 0)) := (hb0.block ab (block_lt HP.out.blk)).trans HP.out.blk
            have hblX : X.heap[ab]? = some (.cells (svnC vs) 45 (0, 0)) := (hbX.block ab (block_lt HP.out.blk)).trans HP.out.blk
            have cw := cell_of (i := n) hbl (svnC_at vs hn7)
            have cX := cell_of (i := n) hblX (svnC_at vs hn7)
            rw [hvn] at cw cX
            have y0 := (hb0.cell (p := ⟨b, off + k * 4, none⟩) (cell_lt x0)).trans x0
            have y1 := (hb0.cell (p := ⟨b, off + k * 4 + 1, none⟩) (cell_lt x1)).trans x1
            have y2 := (hb0.cell (p := ⟨b, off + k * 4 + 2, none⟩) (cell_lt x2)).trans x2
            have y3 := (hb0.cell (p := ⟨b, off + k * 4 + 3, none⟩) (cell_lt x3)).trans x3
            have HRow : Hid (X.ownsRow w.heap.size 30 4 (.slice pn (prtL (plc7 ps) l k n).length cn) (prtL (plc7 ps) l k n).length (cellsE (prtL (plc7 ps) l k n) (prtL (plc7 ps) us k n))) := Lib.hid (by
              rw [← hvn]
              exact row_keep (HP.out.row n) fun b hb => hbX.block b (row_lt (HP.out.row n) b hb))
            have HCl : Hid (Cl X (fun j => j = W0.heap.size) (.slice (some ⟨W0.heap.size, 0, none⟩) 1 1) 1 (cellsE [l[k]] [.slice q l[k].val.length c])) := Lib.hid (by
              have h9 := Cl.new W0 (fun j => j = W0.heap.size) 1 (cellsE [l[k]] [.slice q l[k].val.length c]) #[.string ⟨l[k].key.toArray⟩, .int .u64 (l[k].seq : Int), .bool l[k].gone, .slice q l[k].val.length c] 30 rfl (by omega) rfl
              rw [hX] at h9
              exact h9)
            have HOne : Hid (∀ y ∈ cellsE [l[k]] [.slice q l[k].val.length c], y.oneCell' = true) := Lib.hid (cellsE_one _ _ (by simp [Value.oneCell']))
            have HSz : Hid (w.heap.size ≤ X.heap.size) := Lib.hid (Nat.le_trans HP.out.low.size hbX.size)
            have HPut : Hid (∀ v' (w4 : World), w4.ownsRow w.heap.size 30 4 v' ((prtL (plc7 ps) l k n).length + 1) (cellsE (prtL (plc7 ps) l k n) (prtL (plc7 ps) us k n) ++ cellsE [l[k]] [.slice q l[k].val.length c]) → X.grownBy w4 (Value.slice pn (prtL (plc7 ps) l k n).length cn).ownBlock →
                (v'.ownBlock = (Value.slice pn (prtL (plc7 ps) l k n).length cn).ownBlock ∨ v'.ownBlock = some X.heap.size) → w4.heap[ab]? = some (.cells (svnC vs) 45 (0, 0)) ∧ ∃ vs', PrtM w w.heap.size ab (plc7 ps) l us (k + 1) (w4.setCell ⟨ab, n, none⟩ v') vs') := Lib.hid (fun v' w4 ho hg ha => by
              rw [← hvn] at hg ha
              obtain ⟨k1, k2⟩ := HP.out.put HN.out hn7 (List.getElem?_eq_getElem hlt) HUk.out hul hbX ho hg ha
              exact ⟨k1, _, k2⟩)
            have HLn : Hid ((prtL (plc7 ps) l k n).length + 1 ≤ 68719476736) := Lib.hid (by have := prtL_len (plc7 ps) l k n; omega)
            have HSv := Lib.hid (svnC_at vs hn7)
            have hix := fun W => ix7 W ab n hn7
            clear hb0 hbX hbl hblX x0 x1 x2 x3 hvn
            generalize prtL (plc7 ps) l k n = pl at *
            generalize prtL (plc7 ps) us k n = pu at *
            generalize l[k] = x at *
            go_wp2_with fail
            go_region_law (refine slEnt.step_append rfl (.tmp 42) (.tmp 47) rfl w.heap.size (v := .slice pn pl.length cn) (u := .slice (some ⟨W0.heap.size, 0, none⟩) 1 1) rfl rfl HRow.out HCl.out rfl HOne.out HLn.out HSz.out ?_
                           intro v' w4 ho4 hg4 ha4
                           obtain ⟨p9, c9, rfl, _, _⟩ := row_shape ho4
                           have hPp := HPut.out _ w4 ho4 hg4 ha4
                           have c4 := cell_of (i := n) hPp.1 HSv.out
                           have z4 := frozen_of (i := n) hPp.1
                           have HFin := Lib.hid hPp.2
                           clear ho4 hg4 ha4 hPp)
            all_goals
              go_wp2_with fail
              go_roundg m
              case measure => omega
              case rel =>
                obtain ⟨vs', hp'⟩ := HFin.out
                exact ⟨k + 1, vs', by omega, by go_num, hp'⟩
end Go.Proofs.Ytaomneenflkpeaa
