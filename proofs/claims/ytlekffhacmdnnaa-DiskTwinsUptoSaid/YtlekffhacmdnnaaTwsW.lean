/-
  The walk over glacierlaw2.DiskTwins.
-/
import Derived.Test.YtlekffhacmdnnaaSamW
import Derived.Test.YtlekffhacmdnnaaRqF
import Derived.Deep.RegionHeld3
namespace Go.Proofs.Ytlekffhacmdnnaa
open Go.RowKit

/-- Read, whatever is there: a row of the call's own. -/
theorem read_all (w : World) (S : Nat → Prop) (db : Nat) (D : Dsk) (h : Dk w S db D) (s : List UInt8) (hs : s.length ≤ maxLen) :
    Calls Try.prog 18 #[.pointer (some ⟨db, 0, none⟩), .string ⟨s.toArray⟩] w fun e w' => ∃ p m c er, e = .returned (.tuple #[.slice p m c, .int .i64 er]) ∧ m ≤ 1073741824 ∧ m ≤ c ∧ c ≤ 9223372036854775807 ∧ Wr w' w.heap.size p m c ∧ Below w.heap.size w w' := by
  rcases e : look s D.files with _ | f
  · refine (read_none w S db D h s hs e).mono ?_
    rintro e w' ⟨rfl, rfl⟩
    exact ⟨none, 0, 0, 4, rfl, by omega, by omega, by omega, ⟨[], ⟨rfl, .inl ⟨rfl, rfl⟩⟩⟩, Below.refl _ _⟩
  · have hm := used_mem (look_some e).1
    have hr := h.room
    refine (read_some w S db D h s hs f e).mono ?_
    rintro e w' ⟨v, rfl, ho, hb⟩
    obtain ⟨p, c, rfl, h1, h2⟩ := ho.form
    exact ⟨p, _, c, 0, rfl, by omega, h1, h2, Wr.of ho, hb⟩
theorem Wr.drewN {w : World} {base n cap : Nat} {p : Option Addr} (h : Wr w base p n cap) (m : Nat) : Wr (w.drewN m) base p n cap := h

set_option maxRecDepth 100000 in
set_option maxHeartbeats 8000000 in
theorem twins_any (W : World) (v0 v1 v2 : Value) (xs ys zs : List PAct) (h0 : RdA W (fun _ => False) v0 xs) (hfit0 : ∀ x ∈ xs, FitA x) (hxl0 : xs.length ≤ 1048576) (h1 : RdA W (fun _ => False) v1 ys) (hfit1 : ∀ x ∈ ys, FitA x) (hxl1 : ys.length ≤ 1048576) (h2 : RdA W (fun _ => False) v2 zs) (hfit2 : ∀ x ∈ zs, FitA x) (hxl2 : zs.length ≤ 1048576) :
    Calls Try.prog 5 #[v0, v1, v2] W fun e w' => e = .returned (.bool true) ∧ Below W.heap.size W w' := by
  have HR0 := Lib.hid h0
  have HR1 := Lib.hid h1
  have HR2 := Lib.hid h2
  have HF0 := Lib.hid hfit0
  have HF1 := Lib.hid hfit1
  have HF2 := Lib.hid hfit2
  obtain ⟨p0, cap0, rfl, hc0, hl0, hm0⟩ := h0.form
  obtain ⟨p1, cap1, rfl, hc1, hl1, hm1⟩ := h1.form
  obtain ⟨p2, cap2, rfl, hc2, hl2, hm2⟩ := h2.form
  clear h0 h1 h2 hfit0 hfit1 hfit2
  go_enter Try.func5, Try.ntmps5
  go_wp2_with fail
  refine (known_any W).mono ?_
  rintro e w0 ⟨rfl, hb0⟩
  have HB0 := Lib.hid hb0
  clear hb0
  go_wp2_with fail
  refine (few_any w0 (fun j => W.heap.size ≤ j) _ xs (HR0.out.lift HB0.out (Nat.le_refl _))).mono ?_
  rintro e w0' ⟨⟨r0, rfl⟩, n0, rfl⟩
  rcases r0 with _ | _
  · go_wp2_with fail
    go_ret
    exact ⟨rfl, below_drewN HB0.out _⟩
  · go_wp2_with fail
    generalize hwa : World.drewN w0 n0 = wa
    have HBa : Hid (Below W.heap.size W wa) := Lib.hid (by rw [← hwa]; exact below_drewN HB0.out _)
    clear hwa
    refine (few_any wa (fun j => W.heap.size ≤ j) _ ys (HR1.out.lift HBa.out (Nat.le_refl _))).mono ?_
    rintro e w0' ⟨⟨r1, rfl⟩, n1, rfl⟩
    rcases r1 with _ | _
    · go_wp2_with fail
      go_ret
      exact ⟨rfl, below_drewN HBa.out _⟩
    · go_wp2_with fail
      generalize hwb : World.drewN wa n1 = wb
      have HBb : Hid (Below W.heap.size W wb) := Lib.hid (by rw [← hwb]; exact below_drewN HBa.out _)
      clear hwb
      refine (few_any wb (fun j => W.heap.size ≤ j) _ zs (HR2.out.lift HBb.out (Nat.le_refl _))).mono ?_
      rintro e w0' ⟨⟨r2, rfl⟩, n2, rfl⟩
      rcases r2 with _ | _
      · go_wp2_with fail
        go_ret
        exact ⟨rfl, below_drewN HBb.out _⟩
      · go_wp2_with fail
        generalize hw1 : World.drewN wb n2 = w1
        have HB1 : Hid (Below W.heap.size W w1) := Lib.hid (by rw [← hw1]; exact below_drewN HBb.out _)
        clear hw1
        refine (new_any w1 1048576 (by omega) (by omega)).mono ?_
        rintro e w2 ⟨rfl, hd2, hb2⟩
        have HD2 := Lib.hid hd2
        have HB2 := Lib.hid hb2
        clear hd2 hb2
        go_wp2_with fail
        refine (rnew_any w2 1048576 (by omega) (by omega)).mono ?_
        rintro e w3 ⟨rfl, hr3, hb3⟩
        have hs1 := HB1.out.size
        have hs2 := HB2.out.size
        have HG3 : Hid (Go2 W.heap.size 0 W w3 w1.heap.size w2.heap.size ⟨1048576, [], 0⟩ ⟨1048576, [], 0⟩) := Lib.hid ⟨pair_of HD2.out hr3 hb3 (fun k hk => Nat.le_trans hs1 hk) (fun k hk => Nat.le_trans hs1 (Nat.le_trans hs2 hk)), (HB1.out.trans (HB2.out.mono hs1)).trans (hb3.mono (Nat.le_trans hs1 hs2)), Nat.le_trans (Nat.le_trans hs1 hs2) hb3.size, by simp, by simp, by simp, by simp⟩
        clear hr3 hb3
        go_wp2_with fail
        go_loopw [11, 12, 13, 14, 15, 16, 17] (fun i _ _ _ _ _ _ wr => ∃ (k : Nat), k ≤ xs.length ∧ i = .int .i64 (k : Int) ∧ Hid (Go2 W.heap.size k W wr w1.heap.size w2.heap.size (plays ⟨1048576, [], 0⟩ (xs.take k)) (plays ⟨1048576, [], 0⟩ (xs.take k)))) (fun i _ _ _ _ _ _ _ => xs.length - (intOf i).toNat)
        case atStart => exact ⟨0, by omega, rfl, HG3⟩
        case round =>
          obtain ⟨k, hk, rfl, HG⟩ := hrel
          obtain ⟨B, hB⟩ : ∃ B, B = wr := ⟨_, rfl⟩
          subst hB
          by_cases hlt : k < xs.length
          · obtain ⟨b, off, nv, bv, pv, rfl, hb, hS, hA, d0, d1, d2, d3, d4, d5⟩ := (HR0.out.lift HG.out.below (Nat.le_refl _)).at_ (List.getElem?_eq_getElem hlt)
            have hx := HF0.out xs[k] (List.getElem_mem hlt)
            have HSn := Lib.hid (plays_snoc ⟨1048576, [], 0⟩ xs k _ (List.getElem?_eq_getElem hlt))
            generalize xs[k] = x at *
            generalize plays ⟨1048576, [], 0⟩ (xs.take k) = D at *
            have hbN : b < W.heap.size := by
              have : ¬ W.heap.size ≤ b := hS
              omega
            have hq2 := hA.bytes.form
            have hq3 := hA.picks.form
            rw [bs_length] at hq2
            rw [List.length_map] at hq3
            obtain ⟨q1, c1, rfl, _⟩ := hA.names.formS
            obtain ⟨q2, c2, rfl, _⟩ := hq2
            obtain ⟨q3, c3, rfl, _⟩ := hq3
            have hNB := HG.out.le
            have hbm := hx.bytes
            have HA := Lib.hid hA
            have HX := Lib.hid hx
            -- mine: a copy of the act's bytes
            have hb4 : Below B.heap.size B (B.alloc (.cells #[] 5)) := (Below.refl _ _).alloc (Nat.le_refl _) _
            have HO0 := Lib.hid (own_lit0 B B.heap.size (Nat.le_refl _))
            have HRB : Hid (Rd (B.alloc (.cells #[] 5)) B.heap.size (.slice q2 x.bytes.length c2) x.bytes) := Lib.hid (hA.bytes.rd.below hb4)
            have HLen : Hid (([] : List UInt8).length + x.bytes.length ≤ 140737488355328) := Lib.hid (by simp; omega)
            have HB4 := Lib.hid hb4
            have e4 := (below_cells hb4 b _ hb).trans d4
            clear hA hx hb4
            go_wp2_with (first
              | (at_builtin
                 refine wpList_append_rd rfl (.tmp 59) (.tmp 64) rfl B.heap.size B.heap.size (.slice (some ⟨B.heap.size, 0, none⟩) 0 0) (.slice q2 x.bytes.length c2) [] x.bytes rfl HO0.out rfl HRB.out HLen.out (by simp) ?_
                 intro y1 w5 ho5 hb5
                 have hb5' := HB4.out.trans hb5
                 have f0 := (below_cells hb5' b _ hb).trans d0
                 have f1 := (below_cells hb5' b _ hb).trans d1
                 have f2 := (below_cells hb5' b _ hb).trans d2
                 have f3 := (below_cells hb5' b _ hb).trans d3
                 have f4 := (below_cells hb5' b _ hb).trans d4
                 have f5 := (below_cells hb5' b _ hb).trans d5
                 have HB5 := Lib.hid hb5'
                 rw [List.nil_append] at ho5
                 have HO5 := Lib.hid ho5
                 obtain ⟨pm, cm, rfl, _, _⟩ := ho5.form
                 clear ho5 hb5 hb5'))
            obtain ⟨A, hA⟩ : ∃ A, w5.alloc (.cells #[.int .i64 x.op, .string ⟨x.name.toArray⟩, .string ⟨x.dest.toArray⟩, .slice q1 x.names.length c1, .slice pm x.bytes.length cm, .slice q3 x.picks.length c3] 36) = A := ⟨_, rfl⟩
            rw [hA]
            have hbA : Below B.heap.size B A := by
              rw [← hA]
              exact HB5.out.alloc HB5.out.size _
            have hOA : Own A B.heap.size (.slice pm x.bytes.length cm) x.bytes := by
              rw [← hA]
              exact HO5.out.alloc _
            have hgA : ∀ g, pm = some ⟨g, 0, none⟩ → B.heap.size ≤ g ∧ g < A.heap.size := fun g hg => World.ownsRow.lt hOA g (by rw [hg]; rfl)
            have hAc : ActC A (fun j => W.heap.size ≤ j ∧ j < B.heap.size) (.slice q1 x.names.length c1) (.slice pm x.bytes.length cm) (.slice q3 x.picks.length c3) x :=
              ⟨HA.out.names.step (Fr.of_new hbA _) (fun j _ hj => hj.1), hOA.rdv (by omega) (fun j hj _ hs => by have := hs.2; omega), HA.out.picks.step (Fr.of_new hbA _) (fun j _ hj => hj.1)⟩
            have h1 := HG.out.lenD
            have h3 := HG.out.bornD
            have HC := Lib.hid (step_any A _ _ _ D D ((HG.out.pair.mono (T := fun j => W.heap.size ≤ j ∧ j < B.heap.size) (fun j hj hs => ⟨hs, hj⟩)).below hbA) _ _ _ x hAc HX.out (by omega) (by omega) (by omega) (by omega))
            unfold actV at HC
            have HbA := Lib.hid hbA
            have HOA := Lib.hid hOA
            have HgA := Lib.hid hgA
            clear hA hbA hOA hgA hAc f0 f1 f2 f3 f4 f5 e4
            refine HC.out.mono ?_
            rintro e w6 ⟨rfl, hp6, hf6⟩
            have hAs := HbA.out.size
            have hB6 : Below W.heap.size B w6 := (HbA.out.mono hNB).trans (hf6.below (Nat.le_trans hNB hAs) fun j hj hs => by have := hs.1; omega)
            have hO6 : Own w6 B.heap.size (.slice pm x.bytes.length cm) x.bytes := HOA.out.keep fun j hj => hf6.block j (HgA.out j (by
              obtain ⟨g, hg⟩ : ∃ g, pm = some ⟨g, 0, none⟩ := by
                rcases HOA.out.2 with ⟨e, _⟩ | ⟨g, cap, cur, e, _⟩
                · injection e with e1 _ _
                  rw [e1] at hj
                  cases hj
                · injection e with e1 _ _
                  exact ⟨g, e1⟩
              rw [hg] at hj
              obtain rfl := Option.some.inj hj
              exact hg)).2 (fun hs => by
                have h4 := HOA.out.block j hj
                have := hs.2
                omega)
            have g1 := (below_cells hB6 b _ hbN).trans d1
            have g4 := (below_cells hB6 b _ hbN).trans d4
            have hcv1 : ∀ m, (convert 33 9 (.slice pm x.bytes.length cm)).run Try.prog (w6.drewN m) = .ok (.string ⟨x.bytes.toArray⟩) (w6.drewN m) := fun m => str_run (B := w6.heap.size) (hO6.rd (by omega))
            have hcv2 : ∀ m, (convert 33 9 (.slice q2 x.bytes.length c2)).run Try.prog (w6.drewN m) = .ok (.string ⟨x.bytes.toArray⟩) (w6.drewN m) := fun m => str_run (B := w6.heap.size) (HA.out.bytes.same (Fr.of_below hB6)).rd
            have HP6 := Lib.hid hp6
            have HB6 := Lib.hid hB6
            have HO6 := Lib.hid (Wr.of hO6)
            clear hp6 hf6 hB6 hO6 HC
            go_wp2_with fail
            go_quiet (fail)
            go_wp2_with fail
            clear hcv1 hcv2
            go_loopw [14] (fun j wr => ∃ (l : Nat), l ≤ x.bytes.length ∧ j = .int .i64 (l : Int) ∧ Hid (Wr wr B.heap.size pm x.bytes.length cm ∧ Fr (fun q => B.heap.size ≤ q ∧ q < A.heap.size) w6 wr)) (fun j _ => x.bytes.length - (intOf j).toNat)
            case atStart => exact ⟨0, by omega, rfl, Lib.hid ⟨HO6.out.drewN _, (Fr.refl _ _).drewN _⟩⟩
            case round =>
              obtain ⟨l, hl, rfl, HR⟩ := hrel
              by_cases hll : l < x.bytes.length
              · obtain ⟨g, u, rfl, hgB, hgs, hcu, hzu, hwr⟩ := HR.out.1.at_ hll (.int .u8 122)
                have HWr := Lib.hid hwr
                have hgA := (HgA.out g rfl).2
                clear hwr
                go_wp2_with fail
                go_roundw
                case rel => exact ⟨l + 1, by omega, by go_num, Lib.hid ⟨HWr.out, HR.out.2.then (Fr.setCell _ _ (p := ⟨g, l, none⟩) ⟨hgB, hgA⟩ _)⟩⟩
                case measure => simp [intOf]; omega
              · have hf7 := HR.out.2
                have hp7 := HP6.out.fr hf7 (fun j hj hs ht => hs.elim (fun h => by have := h.2; have := ht.1; omega) (fun hle => by have := ht.2; omega))
                have hB7 : Below W.heap.size B wr := HB6.out.trans (hf7.below (Nat.le_trans hNB HB6.out.size) fun j hj hs => by have := hs.1; omega)
                have e1 := (below_cells hB7 b _ hbN).trans d1
                have hnm : x.name.length ≤ maxLen := by
                  have := HX.out.name
                  unfold maxLen
                  omega
                have HRd := Lib.hid (read_all wr _ _ _ hp7.one x.name hnm)
                have HP7 := Lib.hid hp7
                have HB7 := Lib.hid hB7
                clear hf7 hp7 hB7
                go_wp2_with fail
                refine HRd.out.mono ?_
                rintro e w8 ⟨pb, m, cb, er, rfl, hm, hmc, hcb, hw8, hb8⟩
                have HW8 := Lib.hid hw8
                have HB8 := Lib.hid hb8
                clear hw8 hb8 HRd
                go_wp2_with fail
                obtain ⟨Y, hY⟩ : ∃ Y, Y = wr := ⟨_, rfl⟩
                subst hY
                go_loopw [17] (fun j wr => ∃ (l : Nat), l ≤ m ∧ j = .int .i64 (l : Int) ∧ Hid (Wr wr Y.heap.size pb m cb ∧ Below Y.heap.size Y wr)) (fun j _ => m - (intOf j).toNat)
                case atStart => exact ⟨0, by omega, rfl, Lib.hid ⟨HW8.out, HB8.out⟩⟩
                case round =>
                  obtain ⟨l, hl, rfl, HR3⟩ := hrel
                  by_cases hll3 : l < m
                  · obtain ⟨g, u, rfl, hgB, hgs, hcu, hzu, hwr⟩ := HR3.out.1.at_ hll3 (.int .u8 122)
                    have HWr := Lib.hid hwr
                    clear hwr
                    go_wp2_with fail
                    go_roundw
                    case rel => exact ⟨l + 1, by omega, by go_num, Lib.hid ⟨HWr.out, HR3.out.2.trans ⟨rfl, rfl, rfl, by simp, fun j hj => setCell_other (by omega) _⟩⟩⟩
                    case measure => simp [intOf]; omega
                  · go_wp2_with fail
                    go_roundw
                    case rel =>
                      have hYs := HB7.out.size
                      have hBY : Below W.heap.size B wr := HB7.out.trans (HR3.out.2.mono (Nat.le_trans hNB hYs))
                      have hl1 := act_len D HG.out.pair.one.srt x
                      have hl2 := act_born D x
                      have hq := HbA.out.size
                      refine ⟨k + 1, by omega, by go_num, Lib.hid ?_⟩
                      rw [HSn.out]
                      exact ⟨(HP7.out.below HR3.out.2).mono fun j _ hs => hs.elim (fun h => h.1) (fun hle => by omega), HG.out.below.trans hBY, Nat.le_trans hNB hBY.size, by omega, by omega, by omega, by omega⟩
                    case measure => simp [intOf]; omega
          · have hG := HG.out
            rw [List.take_of_length_le (by omega)] at hG
            have hlD := hG.lenD
            have hbD := hG.bornD
            have hNr := hG.le
            have hb0 := hG.below
            obtain ⟨S1, S2, hd, hr, h12, h2⟩ := hG.pair.mono (T := fun j => W.heap.size ≤ j ∧ j < B.heap.size) (fun j hj hs => ⟨hs, hj⟩)
            have q1 : ∀ j, S1 j → W.heap.size ≤ j ∧ j < B.heap.size := fun j hj => (h12 j hj).1
            have q12 : ∀ j, S1 j → ¬ S2 j := fun j hj => (h12 j hj).2
            have HQ1 := Lib.hid q1
            have HQ12 := Lib.hid q12
            have HQ2 := Lib.hid h2
            have HSam := Lib.hid (same_any B S1 _ _ xs hd (HR0.out.step (Fr.of_new hb0 (fun _ => False)) (fun _ _ h => h)) HF0.out hxl0 (by omega))
            have HDr := Lib.hid hd
            have HRr := Lib.hid hr
            have HBr := Lib.hid hb0
            generalize hDD : plays ⟨1048576, [], 0⟩ xs = D at *
            have HDD := Lib.hid hDD
            clear hG hd hr h12 h2 q1 q12 hb0 hDD
            go_wp2_with fail
            refine HSam.out.mono ?_
            rintro e wA ⟨rfl, hbA⟩
            have hsA := hbA.size
            have HBA := Lib.hid (HBr.out.trans (hbA.mono hNr))
            have HDA := Lib.hid (HDr.out.after hbA)
            have HRA := Lib.hid (HRr.out.after hbA)
            have HTw := Lib.hid (twin_any wA S1 _ D HDA.out (by omega))
            clear hbA HSam HDr HRr
            go_wp2_with fail
            refine HTw.out.mono ?_
            rintro e wB ⟨xb, rfl, htB, hbB⟩
            have hsB := hbB.size
            have HBB := Lib.hid (HBA.out.trans (hbB.mono (Nat.le_trans hNr hsA)))
            have HDB := Lib.hid (HDA.out.after hbB)
            have HRB := Lib.hid (HRA.out.after hbB)
            have HTB := Lib.hid htB
            have HRt := Lib.hid (rtwin_any wB S2 _ D HRB.out (by omega))
            clear htB hbB HTw
            go_wp2_with fail
            refine HRt.out.mono ?_
            rintro e wC ⟨sb, rfl, hsC0, hbC⟩
            have hsC := hbC.size
            have hNC : W.heap.size ≤ wC.heap.size := by omega
            have HBC := Lib.hid (HBB.out.trans (hbC.mono (by omega)))
            have HDC := Lib.hid (HDB.out.after hbC)
            have HRC := Lib.hid (HRB.out.after hbC)
            have HSC : Hid (Rf wC (fun j => wB.heap.size ≤ j ∧ j < wC.heap.size) sb D) := Lib.hid (hsC0.mono fun j hj hs => ⟨hs, hj⟩)
            have HTC : Hid (Dk wC (fun j => wA.heap.size ≤ j ∧ j < wB.heap.size) xb D) := Lib.hid ((HTB.out.mono (S' := fun j => wA.heap.size ≤ j ∧ j < wB.heap.size) fun j hj hs => ⟨hs, hj⟩).after hbC)
            have HPd := Lib.hid (play_any wC S1 _ D HDC.out _ ys ((HR1.out.lift HBC.out (Nat.le_refl _)).step (Fr.refl _ _) (fun j _ hj => (HQ1.out j hj).1)) HF1.out hxl1 1048576 (by omega) (by omega) (by omega))
            clear hsC0 hbC HRt
            go_wp2_with fail
            refine HPd.out.mono ?_
            rintro e wD ⟨rfl, hdD, hfD, hlY⟩
            have hsD := hfD.size
            have HBD : Hid (Below W.heap.size W wD) := Lib.hid (HBC.out.trans (hfD.below hNC fun j hj hs => by have := (HQ1.out j hs).1; omega))
            have HTD : Hid (Dk wD (fun j => wA.heap.size ≤ j ∧ j < wB.heap.size) xb D) := Lib.hid (HTC.out.step hfD (fun j _ hj hs => by have := (HQ1.out j hs).2; have := hj.1; omega) (fun _ _ h => h))
            have HRD : Hid (Rf wD S2 w2.heap.size D) := Lib.hid (HRC.out.step hfD (fun j _ hj hs => HQ12.out j hs hj) (fun _ _ h => h))
            have HSD : Hid (Rf wD (fun j => wB.heap.size ≤ j ∧ j < wC.heap.size) sb D) := Lib.hid (HSC.out.step hfD (fun j _ hj hs => by have := (HQ1.out j hs).2; have := hj.1; omega) (fun _ _ h => h))
            have HDD2 : Hid (Dk wD (fun j => (S1 j ∨ wC.heap.size ≤ j) ∧ j < wD.heap.size) w1.heap.size (plays D ys)) := Lib.hid (hdD.mono fun j hj hs => ⟨hs, hj⟩)
            have HPt := Lib.hid (play_any wD _ _ D HTD.out _ zs ((HR2.out.lift HBD.out (Nat.le_refl _)).step (Fr.refl _ _) (fun j _ hj => by have := hj.1; show W.heap.size ≤ j; omega)) HF2.out hxl2 1048576 (by omega) (by omega) (by omega))
            clear hdD hfD HPd HDC HRC HSC HTC
            go_wp2_with fail
            refine HPt.out.mono ?_
            rintro e wE ⟨rfl, htE, hfE, hlZ⟩
            have hsE := hfE.size
            have HBE : Hid (Below W.heap.size W wE) := Lib.hid (HBD.out.trans (hfE.below (by omega) fun j hj hs => by have := hs.1; omega))
            have HDE : Hid (Dk wE (fun j => (S1 j ∨ wC.heap.size ≤ j) ∧ j < wD.heap.size) w1.heap.size (plays D ys)) := Lib.hid (HDD2.out.step hfE (fun j _ hj hs => by
              have h3 := hs.1
              have h4 := hs.2
              rcases hj.1 with h5 | h5
              · have := (HQ1.out j h5).2
                omega
              · omega) (fun _ _ h => h))
            have HRE : Hid (Rf wE S2 w2.heap.size D) := Lib.hid (HRD.out.step hfE (fun j _ hj hs => by have := (HQ2.out j hj).2; have := hs.1; omega) (fun _ _ h => h))
            have HSE : Hid (Rf wE (fun j => wB.heap.size ≤ j ∧ j < wC.heap.size) sb D) := Lib.hid (HSD.out.step hfE (fun j _ hj hs => by have := hj.1; have := hs.2; omega) (fun _ _ h => h))
            have HTE : Hid (Dk wE (fun j => wA.heap.size ≤ j ∧ j < wE.heap.size) xb (plays D zs)) := Lib.hid (htE.mono fun j hj hs => ⟨hs.elim (fun h => h.1) (fun hle => by omega), hj⟩)
            clear htE hfE HPt HDD2 HRD HSD HTD
            go_wp2_with fail
            refine (new_any wE 1048576 (by omega) (by omega)).mono ?_
            rintro e wF ⟨rfl, haF, hbF⟩
            have hsF := hbF.size
            have HAF := Lib.hid haF
            have HBF := Lib.hid hbF
            clear haF hbF
            go_wp2_with fail
            refine (new_any wF 1048576 (by omega) (by omega)).mono ?_
            rintro e wG ⟨rfl, hbG0, hbG⟩
            have hsG := hbG.size
            have HAG : Hid (Dk wG (fun j => wE.heap.size ≤ j ∧ j < wF.heap.size) wE.heap.size ⟨1048576, [], 0⟩) := Lib.hid ((HAF.out.mono (S' := fun j => wE.heap.size ≤ j ∧ j < wF.heap.size) fun j hj hs => ⟨hs, hj⟩).after hbG)
            have HCG : Hid (Dk wG (fun j => wF.heap.size ≤ j ∧ j < wG.heap.size) wF.heap.size ⟨1048576, [], 0⟩) := Lib.hid (hbG0.mono fun j hj hs => ⟨hs, hj⟩)
            have HEG : Hid (Below wE.heap.size wE wG) := Lib.hid (HBF.out.trans (hbG.mono hsF))
            have HPa := Lib.hid (play_any wG _ _ _ HAG.out _ xs ((HR0.out.lift (HBE.out.trans (HEG.out.mono (by omega))) (Nat.le_refl _)).step (Fr.refl _ _) (fun j _ hj => by have := hj.1; show W.heap.size ≤ j; omega)) HF0.out hxl0 0 (by omega) (by simp) (by simp))
            rw [HDD.out] at HPa
            clear hbG0 hbG HAF HBF HAG
            go_wp2_with fail
            refine HPa.out.mono ?_
            rintro e wH ⟨rfl, haH, hfH, _⟩
            have hsH := hfH.size
            have HEH : Hid (Below wE.heap.size wE wH) := Lib.hid (HEG.out.trans (hfH.below (by omega) fun j hj hs => by have := hs.1; omega))
            have HAH : Hid (Dk wH (fun j => ((wE.heap.size ≤ j ∧ j < wF.heap.size) ∨ wG.heap.size ≤ j) ∧ j < wH.heap.size) wE.heap.size D) := Lib.hid (haH.mono fun j hj hs => ⟨hs, hj⟩)
            have HCH : Hid (Dk wH (fun j => wF.heap.size ≤ j ∧ j < wG.heap.size) wF.heap.size ⟨1048576, [], 0⟩) := Lib.hid (HCG.out.step hfH (fun j _ hj hs => by have := hs.2; have := hj.1; omega) (fun _ _ h => h))
            have HPa2 := Lib.hid (play_any wH _ _ D HAH.out _ ys ((HR1.out.lift (HBE.out.trans (HEH.out.mono (by omega))) (Nat.le_refl _)).step (Fr.refl _ _) (fun j _ hj => by
              show W.heap.size ≤ j
              rcases hj.1 with h5 | h5
              · have := h5.1
                omega
              · omega)) HF1.out hxl1 1048576 (by omega) (by omega) (by omega))
            clear haH hfH HPa HEG HCG
            go_wp2_with fail
            refine HPa2.out.mono ?_
            rintro e wI ⟨rfl, haI, hfI, _⟩
            have hsI := hfI.size
            have HEI : Hid (Below wE.heap.size wE wI) := Lib.hid (HEH.out.trans (hfI.below (by omega) fun j hj hs => by
              rcases hs.1 with h5 | h5
              · have := h5.1
                omega
              · omega))
            have HAI : Hid (Dk wI (fun j => ((wE.heap.size ≤ j ∧ j < wF.heap.size) ∨ wG.heap.size ≤ j) ∧ j < wI.heap.size) wE.heap.size (plays D ys)) := Lib.hid (haI.mono fun j hj hs => ⟨hs.elim (fun h => h.1) (fun hle => .inr (by omega)), hj⟩)
            have HCI : Hid (Dk wI (fun j => wF.heap.size ≤ j ∧ j < wG.heap.size) wF.heap.size ⟨1048576, [], 0⟩) := Lib.hid (HCH.out.step hfI (fun j _ hj hs => by
              have h3 := hj.1
              have h4 := hj.2
              rcases hs.1 with h5 | h5
              · have := h5.2
                omega
              · omega) (fun _ _ h => h))
            have HPb := Lib.hid (play_any wI _ _ _ HCI.out _ xs ((HR0.out.lift (HBE.out.trans (HEI.out.mono (by omega))) (Nat.le_refl _)).step (Fr.refl _ _) (fun j _ hj => by have := hj.1; show W.heap.size ≤ j; omega)) HF0.out hxl0 0 (by omega) (by simp) (by simp))
            rw [HDD.out] at HPb
            clear haI hfI HPa2 HEH HAH HCH
            go_wp2_with fail
            refine HPb.out.mono ?_
            rintro e wJ ⟨rfl, hcJ, hfJ, _⟩
            have hsJ := hfJ.size
            have HEJ : Hid (Below wE.heap.size wE wJ) := Lib.hid (HEI.out.trans (hfJ.below (by omega) fun j hj hs => by have := hs.1; omega))
            have HAJ : Hid (Dk wJ (fun j => ((wE.heap.size ≤ j ∧ j < wF.heap.size) ∨ wG.heap.size ≤ j) ∧ j < wI.heap.size) wE.heap.size (plays D ys)) := Lib.hid (HAI.out.step hfJ (fun j _ hj hs => by
              have h3 := hs.1
              have h4 := hs.2
              rcases hj.1 with h5 | h5
              · have := h5.2
                omega
              · omega) (fun _ _ h => h))
            have HCJ : Hid (Dk wJ (fun j => ((wF.heap.size ≤ j ∧ j < wG.heap.size) ∨ wI.heap.size ≤ j) ∧ j < wJ.heap.size) wF.heap.size D) := Lib.hid (hcJ.mono fun j hj hs => ⟨hs, hj⟩)
            have HPb2 := Lib.hid (play_any wJ _ _ D HCJ.out _ zs ((HR2.out.lift (HBE.out.trans (HEJ.out.mono (by omega))) (Nat.le_refl _)).step (Fr.refl _ _) (fun j _ hj => by
              show W.heap.size ≤ j
              rcases hj.1 with h5 | h5
              · have := h5.1
                omega
              · omega)) HF2.out hxl2 1048576 (by omega) (by omega) (by omega))
            clear hcJ hfJ HPb HEI HAI HCI
            go_wp2_with fail
            refine HPb2.out.mono ?_
            rintro e wK ⟨rfl, hcK, hfK, _⟩
            have hsK := hfK.size
            have HEK : Hid (Below wE.heap.size wE wK) := Lib.hid (HEJ.out.trans (hfK.below (by omega) fun j hj hs => by
              rcases hs.1 with h5 | h5
              · have := h5.1
                omega
              · omega))
            have HAK := Lib.hid (HAJ.out.step (S' := fun j => ((wE.heap.size ≤ j ∧ j < wF.heap.size) ∨ wG.heap.size ≤ j) ∧ j < wI.heap.size) hfK (fun j _ hj hs => by
              have h3 := hj.2
              rcases hs.1 with h6 | h6
              · have h7 := h6.1
                have h8 := h6.2
                rcases hj.1 with h5 | h5
                · have := h5.2
                  omega
                · omega
              · omega) (fun _ _ h => h))
            have HCK := Lib.hid hcK
            have HBK : Hid (Below W.heap.size W wK) := Lib.hid (HBE.out.trans (HEK.out.mono (by omega)))
            have HDK := Lib.hid (HDE.out.after HEK.out)
            have HTK := Lib.hid (HTE.out.after HEK.out)
            obtain ⟨fr, ur, hrK⟩ := HRE.out.after HEK.out
            obtain ⟨fs, us, hsK0⟩ := HSE.out.after HEK.out
            have cr := hrK.c1
            have cs := hsK0.c1
            have hrl := hrK.lt
            have hsl := hsK0.lt
            obtain ⟨pr, capr, rfl, _, _, _⟩ := hrK.form
            obtain ⟨pq, capq, rfl, _, _, _⟩ := hsK0.form
            have HEq : ∀ X, Below wK.heap.size wK X → ∀ pa pb, (pa = w1.heap.size ∧ pb = wE.heap.size) ∨ (pa = xb ∧ pb = wF.heap.size) → Calls Try.prog 28 #[.pointer (some ⟨pa, 0, none⟩), .pointer (some ⟨pb, 0, none⟩)] X fun e w' => e = .returned (.bool true) ∧ Below X.heap.size X w' := fun X hX pa pb hp => by
              rcases hp with ⟨rfl, rfl⟩ | ⟨rfl, rfl⟩
              · exact equal_any X _ _ w1.heap.size wE.heap.size _ (HDK.out.after hX) (HAK.out.after hX) (by omega)
              · exact equal_any X _ _ _ wF.heap.size _ (HTK.out.after hX) (HCK.out.after hX) (by omega)
            have HX1 : Hid (Below wK.heap.size wK wK.drew) := Lib.hid (below_drew (Below.refl _ _))
            clear hcK hfK HPb2 HEJ HAJ HCJ hrK hsK0
            go_wp2_with fail
            go_region_held3 (fun w' => w'.cell? ⟨w2.heap.size, 1, none⟩ = some (.slice pr D.files.length capr) ∧ w'.cell? ⟨sb, 1, none⟩ = some (.slice pq D.files.length capq))
              (first
                | exact ⟨cr, cs⟩
                | exact ⟨cr1, cs1⟩)
              (first
                | (go_at_call 28; refine (HEq _ HX1.out _ _ (by first | exact .inl ⟨rfl, rfl⟩ | exact .inr ⟨rfl, rfl⟩)).mono ?_; rintro e x1 ⟨rfl, hx1⟩; have hx1 : Below wK.heap.size wK x1 := HX1.out.trans (hx1.mono HX1.out.size); have cr1 := (below_cells hx1 w2.heap.size 1 hrl).trans cr; have cs1 := (below_cells hx1 sb 1 hsl).trans cs; have HX1 := Lib.hid hx1; clear hx1))
            all_goals
              go_wp2_with fail
              go_ret
              exact ⟨rfl, HBK.out.trans (HX1.out.mono HBK.out.size)⟩
end Go.Proofs.Ytlekffhacmdnnaa
