/-
  The walk over glacierlaw5.MemOrders, over whatever keeps the table's contracts.
-/
import Derived.Test.YtdgkjekahepjgaaOrdP
import Derived.IntWalk
namespace Go.Proofs.Ytdgkjekahepjgaa
open Go.RowKit

set_option maxRecDepth 100000 in
set_option maxHeartbeats 1000000 in
theorem orders_any {M : World → (Nat → Prop) → Nat → PTb → Prop} (H : MemW M) (HK : ∀ W, Calls Try.prog 7 #[] W fun r W' => r = .returned (.bool true) ∧ Below W.heap.size W W')
    (w : World) (v0 v1 v2 : Value) (d1 d2 : List Int) (es : List Ent) (turn : Int) (h0 : Cl w (fun k => k < w.heap.size) v0 d1.length (ints d1)) (hd1 : ∀ d ∈ d1, -9223372036854775808 ≤ d ∧ d ≤ 9223372036854775807) (hl1 : d1.length ≤ 1048576)
    (h1 : Cl w (fun k => k < w.heap.size) v1 d2.length (ints d2)) (hd2 : ∀ d ∈ d2, -9223372036854775808 ≤ d ∧ d ≤ 9223372036854775807) (hl2 : d2.length ≤ 1048576)
    (h2 : En w (fun k => k < w.heap.size) v2 es) (hf : ∀ x ∈ es, FitE x) (hl : es.length ≤ 1048576) :
    Calls Try.prog 4 #[v0, v1, v2, .int .i64 turn] w fun r W' => r = .returned (.bool true) ∧ Below w.heap.size w W' := by
  obtain ⟨p0, c0, rfl, _, _, _, _⟩ := h0.form
  obtain ⟨p1, c1, rfl, _, _, _, _⟩ := h1.form
  obtain ⟨p2, c2, rfl, hlc, hl47, hcm, _⟩ := h2.form
  have H0 := Lib.hid h0
  have H1 := Lib.hid h1
  have H2 := Lib.hid h2
  have HF := Lib.hid hf
  have HD1 := Lib.hid hd1
  have HD2 := Lib.hid hd2
  have HKn := Lib.hid (HK w)
  clear h0 h1 h2 hf hd1 hd2 HK
  obtain ⟨fw, hfw⟩ : ∃ fw, fewE es 300 = fw := ⟨_, rfl⟩
  have HFw := Lib.hid hfw
  clear hfw
  go_enter Try.func4, Try.ntmps4
  go_wp2_with fail
  refine HKn.out.mono ?_
  rintro r w1 ⟨rfl, hb1⟩
  have hfew := l5_few w1 _ _ es (H2.out.below hb1) HF.out hl 300
  rw [HFw.out] at hfew
  have HFew := Lib.hid hfew
  have HB1 := Lib.hid hb1
  clear hb1 hfew HKn
  go_wp2_with fail
  refine HFew.out.mono ?_
  rintro r w2' ⟨rfl, nq, rfl⟩
  obtain ⟨w2, hw2⟩ : ∃ w2, w1.drewN nq = w2 := ⟨_, rfl⟩
  have HB2 : Hid (Below w.heap.size w w2) := Lib.hid (by rw [← hw2]; exact below_drewN HB1.out _)
  rw [hw2]
  clear hw2 HFew HB1
  cases fw
  · go_wp2_with fail
    go_ret
    exact ⟨rfl, HB2.out⟩
  · have hes : es.length ≤ 300 := by
      have := HFw.out
      unfold fewE at this
      simp only [Bool.and_eq_true, decide_eq_true_eq] at this
      omega
    have hways : (1000 < d1.length ∨ (d1.length ≤ 1000 ∧ 1000 < d2.length) ∨ (d1.length ≤ 1000 ∧ d2.length ≤ 1000 ∧ es.length = 0)) ∨ (d1.length ≤ 1000 ∧ d2.length ≤ 1000 ∧ 0 < es.length) := by omega
    have hi1 : decide ((1000 : Int) < (d1.length : Int)) = decide (1000 < d1.length) := by rw [decide_eq_decide]; omega
    have hi2 : decide ((1000 : Int) < (d2.length : Int)) = decide (1000 < d2.length) := by rw [decide_eq_decide]; omega
    have hi3 : ((es.length : Int) == 0) = (es.length == 0) := by rw [Bool.eq_iff_iff, beq_iff_eq, beq_iff_eq]; omega
    rcases hways with hA | ⟨g1, g2, g3⟩
    · have hB : (decide (1000 < d1.length) = true) ∨ (decide (1000 < d1.length) = false ∧ decide (1000 < d2.length) = true) ∨ (decide (1000 < d1.length) = false ∧ decide (1000 < d2.length) = false ∧ (es.length == 0) = true) := by
        simp only [decide_eq_true_eq, decide_eq_false_iff_not, beq_iff_eq]
        omega
      clear hA hes
      rcases hB with q1 | ⟨q1, q2⟩ | ⟨q1, q2, q3⟩
      · rw [q1] at hi1
        go_wp2_with fail
        go_ret
        exact ⟨rfl, HB2.out⟩
      · rw [q1] at hi1
        rw [q2] at hi2
        go_wp2_with fail
        go_ret
        exact ⟨rfl, HB2.out⟩
      · rw [q1] at hi1
        rw [q2] at hi2
        rw [q3] at hi3
        go_wp2_with fail
        go_ret
        exact ⟨rfl, HB2.out⟩
    · have q1 : decide (1000 < d1.length) = false := decide_eq_false (by omega)
      have q2 : decide (1000 < d2.length) = false := decide_eq_false (by omega)
      have q3 : (es.length == 0) = false := beq_eq_false_iff_ne.2 (by omega)
      rw [q1] at hi1
      rw [q2] at hi2
      rw [q3] at hi3
      have hne : (es.length : Int) ≠ 0 := by omega
      obtain ⟨t, ht, htl⟩ : ∃ t : Nat, (if turn.tmod (es.length : Int) < 0 then turn.tmod (es.length : Int) + es.length else turn.tmod (es.length : Int)) = (t : Int) ∧ t < es.length := by
        have h1 := Int.tmod_lt_of_pos turn (show (0 : Int) < es.length by omega)
        have h2 : -(es.length : Int) < turn.tmod es.length := Int.lt_tmod_of_pos turn (by omega)
        split
        · exact ⟨(turn.tmod es.length + es.length).toNat, by omega, by omega⟩
        · exact ⟨(turn.tmod es.length).toNat, by omega, by omega⟩
      have HT := Lib.hid ht
      have htb1 : -(es.length : Int) < turn.tmod es.length := Int.lt_tmod_of_pos turn (by omega)
      clear ht
      go_upto_if 41 with (fail)
      generalize hng : decide (turn.tmod (es.length : Int) < 0) = ng
      have HNg := Lib.hid hng
      clear hng
      go_cut [3] (fun a wx => a = .int .i64 (t : Int) ∧ wx = w2)
      case first =>
        cases ng
        · have HW : Hid (turn.tmod (es.length : Int) = t) := Lib.hid (by
            have ht := HT.out
            rw [if_neg (of_decide_eq_false HNg.out)] at ht
            exact ht)
          go_wp2_with fail
          go_meet
          exact ⟨by rw [HW.out], rfl⟩
        · have HW : Hid (turn.tmod (es.length : Int) + es.length = t) := Lib.hid (by
            have ht := HT.out
            rw [if_pos (of_decide_eq_true HNg.out)] at ht
            exact ht)
          go_wp2_with fail
          go_meet
          exact ⟨by rw [HW.out, IntWalk.wrap64_in _ ⟨by omega, by omega⟩], rfl⟩
      case rest =>
        obtain ⟨rfl, rfl⟩ := hcut
        obtain ⟨wz, hwz⟩ : ∃ wz : World, wz = wc := ⟨_, rfl⟩
        subst hwz
        clear HT htb1
        go_wp2_with fail
        go_loopw [9, 10] (fun o i wr => ∃ k : Nat, k ≤ es.length ∧ i = .int .i64 (k : Int) ∧ SeenW wz (fun k => k < w.heap.size) (onceE (es.take k)) o wr) (fun _ i _ => es.length - (intOf i).toNat)
        case atStart => exact ⟨0, by omega, rfl, [], rfl, World.ownsRow_nil _ _ _ _, (fun j e u h => by simp [onceE] at h), Below.refl _ _⟩
        case round =>
          obtain ⟨k, hk, rfl, hsw⟩ := hrel
          have HS := Lib.hid hsw
          obtain ⟨us, hus, hrow, hvals, hbw⟩ := hsw
          obtain ⟨po, co, rfl, ho1, ho2⟩ := row_shape hrow
          have hol := onceE_len (es.take k)
          obtain ⟨wa, hwa⟩ : ∃ wa : World, wa = wr := ⟨_, rfl⟩
          subst hwa
          by_cases hlt : k < es.length
          · have HStep : Hid (onceE (es.take (k + 1)) = onceS (onceE (es.take k)) es[k]) := Lib.hid (by rw [take_snoc es k _ (List.getElem?_eq_getElem hlt), onceE_snoc])
            rw [List.length_take] at hol
            generalize onceE (es.take k) = o at *
            have hEo : En wa (fun _ => True) (.slice po o.length co) o := ⟨us, hus, Cl.of_own hrow (by omega) (fun _ _ => trivial) (cellsE_length _ _ hus), fun j e u g1 g2 => ((hvals j e u g1 g2).below hbw).mono fun _ _ _ => trivial⟩
            have HEo := Lib.hid hEo
            obtain ⟨b1, off1, q1, cc1, rfl, hb1, _, hV1, e0, e1, e2, e3⟩ := (H2.out.step (Fr.of_below HB2.out) (fun k _ hk hle => by omega) : En wz (fun k => k < w.heap.size) _ es).at_ (List.getElem?_eq_getElem hlt)
            have hb1a := Nat.lt_of_lt_of_le hb1 hbw.size
            have HX0 := Lib.hid ((below_cells hbw b1 _ hb1).trans e0)
            have HX1 := Lib.hid ((below_cells hbw b1 _ hb1).trans e1)
            have HX2 := Lib.hid ((below_cells hbw b1 _ hb1).trans e2)
            have HX3 := Lib.hid ((below_cells hbw b1 _ hb1).trans e3)
            have HVx := Lib.hid hV1
            have HUs := Lib.hid hus
            have HVals := Lib.hid hvals
            have HRow := Lib.hid hrow
            have HBw := Lib.hid hbw
            generalize es[k] = x at *
            clear hEo e0 e1 e2 e3 hV1 hus hvals hrow hbw HS hb1
            go_upto_block 2 with (fail)
            go_cut [11] (fun a wx => a = .bool (o.any fun f => atE f x) ∧ Hid (Below wa.heap.size wa wx))
            case first =>
              go_wp2_with fail
              go_loopw [11, 12] (fun hs kk wr => ∃ j : Nat, j ≤ o.length ∧ kk = .int .i64 (j : Int) ∧ hs = .bool ((o.take j).any fun f => atE f x) ∧ Below wa.heap.size wa wr) (fun _ kk _ => o.length - (intOf kk).toNat)
              case atStart => exact ⟨0, by omega, rfl, rfl, Below.refl _ _⟩
              case round =>
                obtain ⟨j, hj, rfl, rfl, hbr⟩ := hrel
                have HBr := Lib.hid hbr
                have m0 := (below_cells hbr b1 _ hb1a).trans HX0.out
                have m1 := (below_cells hbr b1 _ hb1a).trans HX1.out
                have m2 := (below_cells hbr b1 _ hb1a).trans HX2.out
                have m3 := (below_cells hbr b1 _ hb1a).trans HX3.out
                by_cases hjl : j < o.length
                · obtain ⟨b2, off2, q2, cc2, rfl, hb2, _, hV2, f0, f1, f2, f3⟩ := (HEo.out.below hbr).at_ (List.getElem?_eq_getElem hjl)
                  have HC := Lib.hid (r6_compare wr.drew o[j] x q2 q1 o[j].val.length x.val.length cc2 cc1)
                  have HCN : Hid ((cmpE o[j] x == 0) = atE o[j] x) := Lib.hid (by rw [Bool.eq_iff_iff, beq_iff_eq]; exact cmpE_zero)
                  have HAny : Hid (((o.take (j + 1)).any fun f => atE f x) = (((o.take j).any fun f => atE f x) || atE o[j] x)) := Lib.hid (by rw [take_snoc o j _ (List.getElem?_eq_getElem hjl), List.any_append]; simp only [List.any_cons, List.any_nil, Bool.or_false])
                  generalize o[j] = y at *
                  generalize ((o.take j).any fun f => atE f x) = hs at *
                  clear hbr hV2 hb2
                  cases hs
                  · generalize hcm : cmpE y x = cm at *
                    clear hcm
                    go_wp2_with fail
                    refine wp_region_quiet_tail 10 (by kernel_rfl) (by kernel_rfl) ?_
                    simp only [List.take_succ_cons, List.take_zero, List.drop_succ_cons, List.drop_zero]
                    repeat (go_big_quiet_step (fail))
                    refine wpQuiet_nil ?_
                    clear m0 m1 m2 m3 f0 f1 f2 f3
                    go_wp2_with fail
                    refine HC.out.mono ?_
                    rintro r w5 ⟨rfl, hb5⟩
                    have HB5 : Hid (Below wa.heap.size wa w5) := Lib.hid ((below_drew HBr.out).trans (hb5.mono HBr.out.size))
                    clear hb5
                    go_wp2_with fail
                    go_roundw
                    case rel => exact ⟨j + 1, by omega, by go_num, by rw [HAny.out, ← HCN.out]; simp, HB5.out⟩
                    case measure => simp [intOf]; omega
                  · go_wp2_with fail
                    go_quiet (fail)
                    go_wp2_with fail
                    go_roundw
                    case rel => exact ⟨j + 1, by omega, by go_num, by rw [HAny.out]; rfl, below_drewN HBr.out _⟩
                    case measure => simp [intOf]; omega
                · obtain rfl : j = o.length := by omega
                  rw [List.take_length]
                  go_wp2_with fail
                  go_meet
                  exact ⟨rfl, HBr⟩
            case rest =>
              obtain ⟨rfl, HBc⟩ := hcut
              obtain ⟨wb, hwb⟩ : ∃ wb : World, wb = wc := ⟨_, rfl⟩
              subst hwb
              have hrow := row_keep HRow.out fun k hk => HBc.out.block k (row_lt HRow.out k hk)
              have HBb : Hid (Below wz.heap.size wz wb) := Lib.hid (HBw.out.trans (HBc.out.mono HBw.out.size))
              have m0 := (below_cells HBc.out b1 _ hb1a).trans HX0.out
              have m1 := (below_cells HBc.out b1 _ hb1a).trans HX1.out
              have m2 := (below_cells HBc.out b1 _ hb1a).trans HX2.out
              have m3 := (below_cells HBc.out b1 _ hb1a).trans HX3.out
              generalize hany : (o.any fun f => atE f x) = hs at *
              have HAny := Lib.hid hany
              clear hany HX0 HX1 HX2 HX3 hb1a HEo
              cases hs
              · have HX : Hid (onceE (es.take (k + 1)) = o ++ [x]) := Lib.hid (by rw [HStep.out, onceS, HAny.out]; rfl)
                have HOa : Hid ((wb.alloc (.cells #[.string ⟨x.key.toArray⟩, .int .u64 (x.seq : Int), .bool x.gone, .slice q1 x.val.length cc1] 35)).ownsRow wz.heap.size 35 4 (.slice po o.length co) o.length (cellsE o us)) :=
                  Lib.hid (row_keep hrow fun k hk => alloc_old (row_lt hrow k hk) _)
                have HCa : Hid (Cl (wb.alloc (.cells #[.string ⟨x.key.toArray⟩, .int .u64 (x.seq : Int), .bool x.gone, .slice q1 x.val.length cc1] 35)) (fun k => k = wb.heap.size) (.slice (some ⟨wb.heap.size, 0, none⟩) 1 1) 1 (cellsE [x] [.slice q1 x.val.length cc1])) :=
                  Lib.hid (Cl.new wb (fun k => k = wb.heap.size) 1 _ #[.string ⟨x.key.toArray⟩, .int .u64 (x.seq : Int), .bool x.gone, .slice q1 x.val.length cc1] 35 rfl (by omega) rfl)
                have HBa : Hid (Below wz.heap.size wz (wb.alloc (.cells #[.string ⟨x.key.toArray⟩, .int .u64 (x.seq : Int), .bool x.gone, .slice q1 x.val.length cc1] 35))) := Lib.hid (HBb.out.alloc HBb.out.size _)
                have oneu : Hid (∀ v ∈ cellsE [x] [.slice q1 x.val.length cc1], v.oneCell' = true) := Lib.hid (cellsE_one _ _ (by simp [Value.oneCell']))
                have HLo : Hid (o.length + 1 ≤ 68719476736) := Lib.hid (by omega)
                clear HStep HAny hrow
                go_wp2_with (at_builtin
                             refine slEnt.wpList_append rfl (.tmp 73) (.tmp 78) rfl wz.heap.size (v := .slice po o.length co) (u := .slice (some ⟨wb.heap.size, 0, none⟩) 1 1) rfl rfl HOa.out HCa.out rfl oneu.out HLo.out HBa.out.size ?_
                             intro y3 w3 ho3 hg3 ha3
                             have HSn : Hid (SeenW wz (fun k => k < w.heap.size) (o ++ [x]) y3 w3) := Lib.hid (SeenW.snoc HUs.out HVals.out ho3 (HBa.out.grown (by exact hg3) HBa.out.size (row_low HOa.out)) HVx.out)
                             clear ho3 hg3 ha3)
                go_roundw
                case rel => exact ⟨k + 1, by omega, by go_num, by rw [HX.out]; exact HSn.out⟩
                case measure => simp [intOf]; omega
              · have HS : Hid (SeenW wz (fun k => k < w.heap.size) o (.slice po o.length co) wb) := Lib.hid ⟨us, HUs.out, hrow, HVals.out, HBb.out⟩
                have HX : Hid (onceE (es.take (k + 1)) = o) := Lib.hid (by rw [HStep.out, onceS, HAny.out]; rfl)
                clear HStep HAny hrow
                go_wp2_with fail
                go_roundw
                case rel => exact ⟨k + 1, by omega, by go_num, by rw [HX.out]; exact HS.out⟩
                case measure => simp [intOf]; omega
          · have hk2 : k = es.length := by omega
            subst hk2
            rw [List.take_length] at *
            have hap := onceE_apart es
            have hmem := onceE_mem es
            have horl : (tabP d1 (onceE es)).L = (tabP d2 (rotE t (onceE es))).L := orders_L d1 d2 t es
            generalize onceE es = o at *
            have HEo : Hid (En wa (fun k => k < wa.heap.size) (.slice po o.length co) o) := Lib.hid ⟨us, hus, Cl.of_own hrow (by omega) (fun k hk => row_lt hrow k hk) (cellsE_length _ _ hus), fun j e u g1 g2 => ((hvals j e u g1 g2).below hbw).mono fun k _ hk => Nat.lt_of_lt_of_le hk (Nat.le_trans HB2.out.size hbw.size)⟩
            have HFo : Hid (∀ x ∈ o, FitE x) := Lib.hid fun x hx => HF.out x (hmem x hx)
            have HOr := Lib.hid horl
            have HB3 : Hid (Below w.heap.size w wa) := Lib.hid (HB2.out.trans (hbw.mono HB2.out.size))
            clear hus hrow hvals hbw HS hmem hap horl HF
            have HNew := Lib.hid (H.new wa (fun k => k < w.heap.size) (.slice p0 d1.length c0) d1 (H0.out.step (Fr.of_below HB3.out) (fun k _ hk hle => by omega)) hl1 HD1.out)
            go_wp2_with fail
            refine HNew.out.mono ?_
            rintro r w4 ⟨ma, rfl, hma, hb4⟩
            have HMa := Lib.hid hma
            have HB4' := Lib.hid hb4
            have HB4 : Hid (Below w.heap.size w w4) := Lib.hid (HB3.out.trans (hb4.mono HB3.out.size))
            clear hma hb4 HNew
            have HNew := Lib.hid (H.new w4 (fun k => k < w.heap.size) (.slice p1 d2.length c1) d2 (H1.out.step (Fr.of_below HB4.out) (fun k _ hk hle => by omega)) hl2 HD2.out)
            go_wp2_with fail
            refine HNew.out.mono ?_
            rintro r w5 ⟨mb, rfl, hmb, hb5⟩
            have HMa5 : Hid (M w5 (fun j => wa.heap.size ≤ j ∧ j < w4.heap.size) ma (tabP d1 [])) := Lib.hid (H.step HMa.out (Fr.of_new hb5 (fun _ => False)) (fun _ _ _ hf => hf) (fun j hj hs => ⟨hs, hj⟩))
            have HMb5 : Hid (M w5 (fun j => w4.heap.size ≤ j) mb (tabP d2 [])) := Lib.hid hmb
            have HB5 : Hid (Below wa.heap.size wa w5) := Lib.hid (HB4'.out.trans (hb5.mono HB4'.out.size))
            have HZ4 := Lib.hid HB4'.out.size
            have hol2 : o.length ≤ 300 := by omega
            clear hmb hb5 HMa HB4' HB4 HNew
            go_wp2_with fail
            go_loopw [15] (fun i wr => ∃ (k : Nat) (Sa Sb : Nat → Prop), k ≤ o.length ∧ i = .int .i64 (k : Int) ∧ M wr Sa ma (tabP d1 (o.take k)) ∧ M wr Sb mb (tabP d2 ((rotE t o).take k)) ∧ (∀ j, j < wr.heap.size → Sa j → Sb j → False) ∧ (∀ j, Sa j → wa.heap.size ≤ j) ∧ (∀ j, Sb j → wa.heap.size ≤ j) ∧ Below wa.heap.size wa wr) (fun i _ => o.length - (intOf i).toNat)
            case atStart => exact ⟨0, _, _, by omega, rfl, HMa5.out, HMb5.out, fun j _ h1 h2 => by omega, fun j h => h.1, fun j h => Nat.le_trans HZ4.out h, HB5.out⟩
            case round =>
              obtain ⟨k, Sa, Sb, hk, rfl, hma, hmb, hdis, hla, hlb, hbr⟩ := hrel
              obtain ⟨wd, hwd⟩ : ∃ wd : World, wd = wr := ⟨_, rfl⟩
              subst hwd
              have HMa := Lib.hid hma
              have HMb := Lib.hid hmb
              have HDis := Lib.hid hdis
              have HLa := Lib.hid hla
              have HLb := Lib.hid hlb
              have HBr := Lib.hid hbr
              clear hma hmb hdis hla hlb hbr HMa5 HMb5 HB5 HZ4
              by_cases hlt : k < o.length
              · obtain ⟨m, hm⟩ : ∃ m, (k + t) % o.length = m := ⟨_, rfl⟩
                have hml : m < o.length := by rw [← hm]; exact Nat.mod_lt _ (by omega)
                have htm : ((k : Int) + (t : Int)).tmod (o.length : Int) = (m : Int) := by
                  rw [← hm, Int.tmod_eq_emod_of_nonneg (by omega)]
                  norm_cast
                have hry : (rotE t o)[k]? = some o[m] := by
                  rw [rotE_at t o k hlt, hm]
                  exact List.getElem?_eq_getElem hml
                have HTk : Hid (putT (tabP d1 (o.take k)) (normE o[k]) = tabP d1 (o.take (k + 1))) := Lib.hid (by rw [take_snoc o k _ (List.getElem?_eq_getElem hlt), tabP_snoc])
                have HTr : Hid (putT (tabP d2 ((rotE t o).take k)) (normE o[m]) = tabP d2 ((rotE t o).take (k + 1))) := Lib.hid (by rw [take_snoc _ k _ hry, tabP_snoc])
                have hl1' := tabP_len d1 (o.take k)
                have hl2' := tabP_len d2 ((rotE t o).take k)
                rw [List.length_take] at hl1' hl2'
                obtain ⟨b1, off1, q1, cc1, rfl, hb1, _, hV1, e0, e1, e2, e3⟩ := (HEo.out.below HBr.out).at_ (List.getElem?_eq_getElem hlt)
                have HPut := Lib.hid (H.put wd Sa _ ma _ HMa.out (by omega) (by omega) o[k] (HFo.out _ (List.getElem_mem hlt)) q1 cc1 hV1)
                rw [HTk.out] at HPut
                have HFy := Lib.hid (HFo.out _ (List.getElem_mem hml))
                have HYat := Lib.hid (List.getElem?_eq_getElem hml)
                generalize o[k] = x at *
                generalize o[m] = y at *
                have hne2 : (o.length : Int) ≠ 0 := by omega
                clear hm hry hV1 HTk
                go_wp2_with fail
                refine HPut.out.mono ?_
                rintro r w6 ⟨rfl, hm6, hf6⟩
                have HMa6 := Lib.hid hm6
                have HB6 : Hid (Below wa.heap.size wa w6) := Lib.hid (HBr.out.trans (hf6.below HBr.out.size fun j hj hs => absurd (HLa.out j hs) (by omega)))
                have HMb6 : Hid (M w6 (fun j => Sb j ∧ j < wd.heap.size) mb (tabP d2 ((rotE t o).take k))) := Lib.hid (H.step HMb.out hf6 (fun j hj hs hsa => HDis.out j hj hsa hs) (fun j hj hs => ⟨hs, hj⟩))
                have HSz := Lib.hid hf6.size
                clear hm6 hf6 HPut HMa HMb e0 e1 e2 e3 hb1
                obtain ⟨b2, off2, q2, cc2, hpq, hb2, _, hV2, e0, e1, e2, e3⟩ := (HEo.out.below HB6.out).at_ HYat.out
                obtain ⟨rfl, rfl⟩ : b1 = b2 ∧ off1 = off2 := by simpa using hpq
                have HPut := Lib.hid (H.put w6 _ _ mb _ HMb6.out (by omega) (by omega) y HFy.out q2 cc2 hV2)
                rw [HTr.out] at HPut
                clear hV2 HTr hpq
                go_wp2_with fail
                refine HPut.out.mono ?_
                rintro r w7 ⟨rfl, hm7, hf7⟩
                have HMb7 := Lib.hid hm7
                have HB7 : Hid (Below wa.heap.size wa w7) := Lib.hid (HB6.out.trans (hf7.below HB6.out.size fun j hj hs => absurd (HLb.out j hs.1) (by omega)))
                have HMa7 : Hid (M w7 (fun j => More Sa wd.heap.size j ∧ j < w6.heap.size) ma (tabP d1 (o.take (k + 1)))) := Lib.hid (H.step HMa6.out hf7 (fun j hj hs hsb => hs.elim (fun h => HDis.out j hsb.2 h hsb.1) (fun h => absurd hsb.2 (by omega))) (fun j hj hs => ⟨hs, hj⟩))
                clear hm7 hf7 HPut HMa6 HMb6 e0 e1 e2 e3 hb2
                go_wp2_with fail
                go_roundw
                case rel =>
                  refine ⟨k + 1, _, _, by omega, by go_num, HMa7.out, HMb7.out, fun j hj h1 h2 => ?_, fun j h => h.1.elim (HLa.out j) (fun h => Nat.le_trans HBr.out.size h), fun j h => h.elim (fun h => HLb.out j h.1) (fun h => Nat.le_trans HB6.out.size h), HB7.out⟩
                  rcases h2 with h2 | h2
                  · exact h1.1.elim (fun h => HDis.out j h2.2 h h2.1) (fun h => absurd h2.2 (by omega))
                  · exact absurd h1.2 (by omega)
                case measure => simp [intOf]; omega
              · obtain rfl : k = o.length := by omega
                rw [List.take_length] at HMa
                rw [← rotE_len t o, List.take_length] at HMb
                have hq1 := (tabP_len d1 o).1
                have hq2 := (tabP_len d2 (rotE t o)).1
                rw [rotE_len] at hq2
                generalize tabP d1 o = T1 at *
                generalize tabP d2 (rotE t o) = T2 at *
                have hL := HOr.out
                have hR : rightE T1.L = true := rightE_iff.2 ⟨(H.wf HMa.out).one, (H.wf HMa.out).srt⟩
                have HRi := Lib.hid hR
                have HL := Lib.hid hL
                have HQ1 : Hid (T1.L.length ≤ 1048576) := Lib.hid (by omega)
                have HQ2 : Hid (T2.L.length ≤ 1048576) := Lib.hid (by omega)
                clear hL hR hq1 hq2 HDis HLa HLb HEo HFo HOr
                have HAll := Lib.hid (H.all wd Sa ma T1 HMa.out HQ1.out)
                go_wp2_with fail
                refine HAll.out.mono ?_
                rintro r w6 ⟨va, rfl, hea, hb6⟩
                have HMa6 := Lib.hid (H.after HMa.out hb6)
                have HAll2 := Lib.hid (H.all w6 Sb mb T2 (H.after HMb.out hb6) HQ2.out)
                have HMb6 := Lib.hid (H.after HMb.out hb6)
                have HEa := Lib.hid hea
                have HB6 : Hid (Below wa.heap.size wa w6) := Lib.hid (HBr.out.trans (hb6.mono HBr.out.size))
                clear hea hb6 HAll HMa HMb HBr
                go_wp2_with fail
                refine HAll2.out.mono ?_
                rintro r w7 ⟨vb, rfl, heb, hb7⟩
                have HMa7 := Lib.hid (H.after HMa6.out hb7)
                have HMb7 := Lib.hid (H.after HMb6.out hb7)
                have HEa7 := Lib.hid (HEa.out.below hb7)
                have HEb7 := Lib.hid heb
                have HB7 : Hid (Below wa.heap.size wa w7) := Lib.hid (HB6.out.trans (hb7.mono HB6.out.size))
                clear heb hb7 HAll2 HMa6 HMb6 HB6 HEa
                go_wp2_with fail
                have hsr := l5_sameRows w7 _ _ va vb T1.L T2.L HEa7.out HEb7.out
                rw [← HL.out, sameL_iff.2 rfl] at hsr
                have HSR := Lib.hid hsr
                clear hsr
                refine HSR.out.mono ?_
                rintro r u0 ⟨rfl, hb8⟩
                have HM1_0 := Lib.hid (H.after HMa7.out hb8)
                have HM2_0 := Lib.hid (H.after HMb7.out hb8)
                have HB_0 : Hid (Below wa.heap.size wa u0) := Lib.hid (HB7.out.trans (hb8.mono HB7.out.size))
                clear hb8 HSR HMa7 HMb7 HB7 HEa7 HEb7
                have hcall := H.len u0 _ ma T1 HM1_0.out HQ1.out
                have HCall := Lib.hid hcall
                clear hcall
                go_wp2_with fail
                refine HCall.out.mono ?_
                rintro r u1 ⟨rfl, hbn⟩
                have HM1_1 := Lib.hid (H.after HM1_0.out hbn)
                have HM2_1 := Lib.hid (H.after HM2_0.out hbn)
                have HB_1 : Hid (Below wa.heap.size wa u1) := Lib.hid (HB_0.out.trans (hbn.mono HB_0.out.size))
                clear hbn HCall HM1_0 HM2_0 HB_0
                have hcall := H.len u1 _ mb T2 HM2_1.out HQ2.out
                rw [← HL.out] at hcall
                have HCall := Lib.hid hcall
                clear hcall
                go_wp2_with fail
                refine HCall.out.mono ?_
                rintro r u2 ⟨rfl, hbn⟩
                have HM1_2 := Lib.hid (H.after HM1_1.out hbn)
                have HM2_2 := Lib.hid (H.after HM2_1.out hbn)
                have HB_2 : Hid (Below wa.heap.size wa u2) := Lib.hid (HB_1.out.trans (hbn.mono HB_1.out.size))
                clear hbn HCall HM1_1 HM2_1 HB_1
                have hcall := H.size u2 _ ma T1 HM1_2.out HQ1.out
                have HCall := Lib.hid hcall
                clear hcall
                go_wp2_with fail
                refine HCall.out.mono ?_
                rintro r u3 ⟨rfl, hbn⟩
                have HM1_3 := Lib.hid (H.after HM1_2.out hbn)
                have HM2_3 := Lib.hid (H.after HM2_2.out hbn)
                have HB_3 : Hid (Below wa.heap.size wa u3) := Lib.hid (HB_2.out.trans (hbn.mono HB_2.out.size))
                clear hbn HCall HM1_2 HM2_2 HB_2
                have hcall := H.size u3 _ mb T2 HM2_3.out HQ2.out
                rw [← HL.out] at hcall
                have HCall := Lib.hid hcall
                clear hcall
                go_wp2_with fail
                refine HCall.out.mono ?_
                rintro r u4 ⟨rfl, hbn⟩
                have HM1_4 := Lib.hid (H.after HM1_3.out hbn)
                have HM2_4 := Lib.hid (H.after HM2_3.out hbn)
                have HB_4 : Hid (Below wa.heap.size wa u4) := Lib.hid (HB_3.out.trans (hbn.mono HB_3.out.size))
                clear hbn HCall HM1_3 HM2_3 HB_3
                have HCall := Lib.hid (H.all u4 _ ma T1 HM1_4.out HQ1.out)
                go_wp2_with fail
                refine HCall.out.mono ?_
                rintro r u5 ⟨vc, rfl, hec, hbn⟩
                have hri := r6_right u5 _ vc T1.L hec
                rw [HRi.out] at hri
                have HRt := Lib.hid hri
                have HB_5 : Hid (Below wa.heap.size wa u5) := Lib.hid (HB_4.out.trans (hbn.mono HB_4.out.size))
                clear hbn HCall HM1_4 HM2_4 HB_4 hri hec
                go_wp2_with fail
                refine HRt.out.mono ?_
                rintro r u6 ⟨rfl, hbn⟩
                have HB_6 : Hid (Below w.heap.size w u6) := Lib.hid (HB3.out.trans ((HB_5.out.trans (hbn.mono HB_5.out.size)).mono HB3.out.size))
                clear hbn
                go_wp2_with fail
                go_ret
                exact ⟨rfl, HB_6.out⟩
end Go.Proofs.Ytdgkjekahepjgaa
