/-
  The walk over glacierlaw5.MemSees, over whatever keeps the table's contracts.
-/
import Derived.Test.YtdgkjekahepjgaaMemW
namespace Go.Proofs.Ytdgkjekahepjgaa
open Go.RowKit

theorem find_at {α : Type} (p : α → Bool) : ∀ l : List α, l.find? p = l[(l.takeWhile fun x => !p x).length]?
  | [] => rfl
  | x :: r => by
    rw [List.find?_cons, List.takeWhile_cons]
    cases h : p x
    · simpa using find_at p r
    · simp
theorem find_low {α : Type} (p : α → Bool) : ∀ (l : List α) (j : Nat) (y : α), j < (l.takeWhile fun x => !p x).length → l[j]? = some y → p y = false
  | [], j, y, h, _ => by simp at h
  | x :: r, j, y, h, hy => by
    rw [List.takeWhile_cons] at h
    cases hp : p x
    · rw [hp] at h
      cases j with
      | zero => obtain rfl : x = y := by simpa using hy
                exact hp
      | succ j => exact find_low p r j y (by simpa using h) (by simpa using hy)
    · rw [hp] at h
      simp at h
theorem seen_len (l : List Ent) (up : Nat) : (seenE l up).length ≤ l.length := List.length_filter_le _ _

set_option maxRecDepth 100000 in
set_option maxHeartbeats 4000000 in
theorem sees_any {M : World → (Nat → Prop) → Nat → PTb → Prop} (H : MemW M) (HK : ∀ W, Calls Try.prog 7 #[] W fun r W' => r = .returned (.bool true) ∧ Below W.heap.size W W')
    (w : World) (v0 v1 : Value) (draws : List Int) (es : List Ent) (h0 : Cl w (fun k => k < w.heap.size) v0 draws.length (ints draws)) (hd : ∀ d ∈ draws, -9223372036854775808 ≤ d ∧ d ≤ 9223372036854775807) (hdl : draws.length ≤ 1048576)
    (h1 : En w (fun k => k < w.heap.size) v1 es) (hf : ∀ x ∈ es, FitE x) (hl : es.length ≤ 1048576) (up : Nat) (hup : up < 18446744073709551616) :
    Calls Try.prog 6 #[v0, v1, .int .u64 (up : Int)] w fun r W' => r = .returned (.bool true) ∧ Below w.heap.size w W' := by
  obtain ⟨p0, c0, rfl, _, _, _, _⟩ := h0.form
  obtain ⟨p1, c1, rfl, hlc, hl47, hcm, _⟩ := h1.form
  have H0 := Lib.hid h0
  have H1 := Lib.hid h1
  have HF := Lib.hid hf
  have HD := Lib.hid hd
  have HKn := Lib.hid (HK w)
  clear h0 h1 hf hd HK
  obtain ⟨fw, hfw⟩ : ∃ fw, fewE es 400 = fw := ⟨_, rfl⟩
  have HFw := Lib.hid hfw
  clear hfw
  go_enter Try.func6, Try.ntmps6
  go_wp2_with fail
  refine HKn.out.mono ?_
  rintro r w1 ⟨rfl, hb1⟩
  have hfew := l5_few w1 _ _ es (H1.out.below hb1) HF.out hl 400
  rw [HFw.out] at hfew
  have HFew := Lib.hid hfew
  have HB1 := Lib.hid hb1
  clear hb1 hfew HKn
  go_wp2_with fail
  refine HFew.out.mono ?_
  rintro r w2' ⟨rfl, nq, rfl⟩
  obtain ⟨w2, hw2⟩ : ∃ w2, w1.drewN nq = w2 := ⟨_, rfl⟩
  have HB2 : Hid (Below w.heap.size w w2) := Lib.hid (by rw [← hw2]; exact below_drewN HB1.out _)
  rw [hw2]
  clear hw2 HFew HB1
  cases fw
  · go_wp2_with fail
    go_ret
    exact ⟨rfl, HB2.out⟩
  · by_cases hd1 : (1000 : Int) < (draws.length : Int)
    · have hq : decide ((1000 : Int) < (draws.length : Int)) = true := decide_eq_true hd1
      have hqn : decide (1000 < draws.length) = true := decide_eq_true (by omega)
      clear hd1
      go_wp2_with fail
      go_ret
      exact ⟨rfl, HB2.out⟩
    · have hq : decide ((1000 : Int) < (draws.length : Int)) = false := decide_eq_false hd1
      have hqn : decide (1000 < draws.length) = false := decide_eq_false (by omega)
      have HNew := Lib.hid (H.new w2 (fun k => k < w.heap.size) (.slice p0 draws.length c0) draws (H0.out.step (Fr.of_below HB2.out) (fun k _ hk hle => by omega)) hdl HD.out)
      have hes400 : es.length ≤ 400 := by
        have := HFw.out
        unfold fewE at this
        simp only [Bool.and_eq_true, decide_eq_true_eq] at this
        omega
      clear hd1
      go_wp2_with fail
      refine HNew.out.mono ?_
      rintro r w3 ⟨mb, rfl, hm, hb3⟩
      have HM : Hid (M w3 (fun k => w.heap.size ≤ k) mb (tabP draws [])) := Lib.hid (H.mono hm fun k _ hk => Nat.le_trans HB2.out.size hk)
      have HB3 : Hid (Below w.heap.size w w3) := Lib.hid (HB2.out.trans (hb3.mono HB2.out.size))
      clear hm hb3 HNew HB2 hq hqn
      go_wp2_with fail
      go_loopw [8] (fun i wr => ∃ k : Nat, k ≤ es.length ∧ i = .int .i64 (k : Int) ∧ M wr (fun k => w.heap.size ≤ k) mb (tabP draws (es.take k)) ∧ Below w.heap.size w wr) (fun i _ => es.length - (intOf i).toNat)
      case atStart => exact ⟨0, by omega, rfl, by simpa using HM.out, HB3.out⟩
      case round =>
        obtain ⟨k, hk, rfl, hmr, hbr⟩ := hrel
        have HMr := Lib.hid hmr
        have HBr := Lib.hid hbr
        have hEr : En wr (fun k => k < w.heap.size) (.slice p1 es.length c1) es := H1.out.step (Fr.of_below hbr) (fun k _ hk hle => by omega)
        have hTl := tabP_len draws (es.take k)
        clear hmr hbr
        by_cases hlt : k < es.length
        · obtain ⟨b1, off1, q1, cc1, rfl, hb1, _, hV1, d0, d1, d2, d3⟩ := hEr.at_ (List.getElem?_eq_getElem hlt)
          have HPut := Lib.hid (H.put wr _ _ mb _ HMr.out (by rw [List.length_take] at hTl; omega) (by rw [List.length_take] at hTl; omega) es[k] (HF.out _ (List.getElem_mem hlt)) q1 cc1 hV1)
          have HTk : Hid (putT (tabP draws (es.take k)) (normE es[k]) = tabP draws (es.take (k + 1))) := Lib.hid (by rw [take_snoc es k _ (List.getElem?_eq_getElem hlt), tabP_snoc])
          generalize es[k] = x at *
          clear hEr hV1 hb1 hTl
          go_wp2_with fail
          refine HPut.out.mono ?_
          rintro r w4 ⟨rfl, hm4, hf4⟩
          have HM4 : Hid (M w4 (fun k => w.heap.size ≤ k) mb (tabP draws (es.take (k + 1)))) := Lib.hid (by
            rw [← HTk.out]
            exact H.mono hm4 fun k _ hk => hk.elim id (fun hle => Nat.le_trans HBr.out.size hle))
          have HB4 : Hid (Below w.heap.size w w4) := Lib.hid (HBr.out.trans (hf4.below HBr.out.size fun k hk hle => by omega))
          clear hm4 hf4 d0 d1 d2 d3
          go_wp2_with fail
          go_roundw
          case rel => exact ⟨k + 1, by omega, by go_num, HM4.out, HB4.out⟩
          case measure => simp [intOf]; omega
        · have hk2 : k = es.length := by omega
          subst hk2
          rw [List.take_length] at *
          obtain ⟨T, hT⟩ : ∃ T, tabP draws es = T := ⟨_, rfl⟩
          rw [hT] at HMr hTl
          have hTl2 : T.L.length ≤ 1048576 := by omega
          have hR : rightE T.L = true := rightE_iff.2 ⟨(H.wf HMr.out).one, (H.wf HMr.out).srt⟩
          have HSrt : Hid (SrtE T.L) := Lib.hid (H.wf HMr.out).srt
          have HRt := Lib.hid hR
          have HAll := Lib.hid (H.all wr _ mb T HMr.out hTl2)
          clear hEr hR hT
          go_wp2_with fail
          refine HAll.out.mono ?_
          rintro r w5 ⟨va, rfl, hea, hb5⟩
          have HSee := Lib.hid (r6_seen w5 _ va T.L hea HRt.out hTl2 up)
          have HB5 := Lib.hid hb5
          clear hea hb5 HAll
          go_wp2_with fail
          refine HSee.out.mono ?_
          rintro r w6 ⟨vs, rfl, hes, hb6⟩
          obtain ⟨ps, cs, rfl, hs1, hs2, hs3, _⟩ := hes.form
          have HEs := Lib.hid hes
          have HB6 : Hid (Below wr.heap.size wr w6) := Lib.hid (HB5.out.trans (hb6.mono HB5.out.size))
          have hsl := seen_len T.L up
          clear hes hb6 HSee HB5
          go_wp2_with fail
          have HM6 : Hid (M w6 (fun k => w.heap.size ≤ k) mb T) := Lib.hid (H.after HMr.out HB6.out)
          have HB : Hid (Below w.heap.size w w6) := Lib.hid (HBr.out.trans (HB6.out.mono HBr.out.size))
          have HTl := Lib.hid hTl2
          have HSl : Hid ((seenE T.L up).length ≤ 1048576) := Lib.hid (by omega)
          have HFind : Hid (∀ s, (seenE T.L up).find? (fun e => e.key == s) = (newestE T.L s up).filter (fun e => !e.gone)) := Lib.hid fun s => seen_find HSrt.out up s
          clear HBr HMr HB6 HSrt HRt hTl2 hTl hsl hes400
          generalize hss : seenE T.L up = ss at *
          clear hss
          go_loopw [11, 12] (fun n i wq => ∃ k : Nat, k ≤ es.length ∧ n = .int .i64 (k : Int) ∧ i = .int .i64 (k : Int) ∧ Below w6.heap.size w6 wq) (fun _ i _ => es.length - (intOf i).toNat)
          case atStart => exact ⟨0, by omega, rfl, rfl, Below.refl _ _⟩
          case round =>
            obtain ⟨k, hk, rfl, rfl, hbq⟩ := hrel
            have HBq := Lib.hid hbq
            have HMq := Lib.hid (H.after HM6.out hbq)
            have hEr : En wr (fun k => k < w.heap.size) (.slice p1 es.length c1) es := H1.out.step (Fr.of_below (HB.out.trans (hbq.mono HB.out.size))) (fun k _ hk hle => by omega)
            have HSr := Lib.hid (HEs.out.below hbq)
            clear hbq
            by_cases hlt : k < es.length
            · obtain ⟨b1, off1, q1, cc1, rfl, hb1, _, hV1, d0, d1, d2, d3⟩ := hEr.at_ (List.getElem?_eq_getElem hlt)
              have hfx := HF.out _ (List.getElem_mem hlt)
              generalize es[k] = x at *
              have HGet := Lib.hid (H.get wr _ mb T HMq.out HTl.out x.key up (by have := hfx.key; omega) hup)
              clear hEr hV1 d1 d2 d3
              go_wp2_with fail
              refine HGet.out.mono ?_
              rintro r w7 ⟨qg, cg, rfl, hog, hb7⟩
              have HOg := Lib.hid hog
              have HB7 := Lib.hid hb7
              have HSr7 := Lib.hid (HSr.out.below hb7)
              have HBq7 : Hid (Below w6.heap.size w6 w7) := Lib.hid (HBq.out.trans (hb7.mono HBq.out.size))
              have hfd := (find_at (fun e : Ent => e.key == x.key) ss).symm.trans (HFind.out x.key)
              have hlow := find_low (fun e : Ent => e.key == x.key) ss
              have hJl : (ss.takeWhile fun e => !(e.key == x.key)).length ≤ ss.length := List.takeWhile_prefix _ |>.length_le
              have hkeyJ : ∀ y, ss[(ss.takeWhile fun e => !(e.key == x.key)).length]? = some y → (y.key == x.key) = true := fun y hy => by
                rw [← find_at (fun e : Ent => e.key == x.key)] at hy
                exact List.find?_some (p := fun e : Ent => e.key == x.key) hy
              generalize newestE T.L x.key up = N at *
              generalize (ss.takeWhile fun e => !(e.key == x.key)).length = J at *
              have HFd := Lib.hid hfd
              have HLow := Lib.hid hlow
              have HKeyJ := Lib.hid hkeyJ
              have HX : Hid (Below w7.heap.size w7 (w7.alloc (.cells #[.string ⟨(optE N).key.toArray⟩, .int .u64 ((optE N).seq : Int), .bool (optE N).gone, .slice qg (optE N).val.length cg] 35))) := Lib.hid ((Below.refl _ _).alloc (Nat.le_refl _) _)
              have HXb : Hid ((w7.alloc (.cells #[.string ⟨(optE N).key.toArray⟩, .int .u64 ((optE N).seq : Int), .bool (optE N).gone, .slice qg (optE N).val.length cg] 35)).heap[w7.heap.size]? = some (.cells #[.string ⟨(optE N).key.toArray⟩, .int .u64 ((optE N).seq : Int), .bool (optE N).gone, .slice qg (optE N).val.length cg] 35 (0, 0))) := Lib.hid (heap_alloc_new w7 _)
              have hb17 : b1 < w7.heap.size := Nat.lt_of_lt_of_le hb1 HB7.out.size
              have HC0 : Hid ((w7.alloc (.cells #[.string ⟨(optE N).key.toArray⟩, .int .u64 ((optE N).seq : Int), .bool (optE N).gone, .slice qg (optE N).val.length cg] 35)).cell? ⟨b1, off1 + k * 4, none⟩ = some (.string ⟨x.key.toArray⟩)) := Lib.hid (
                (below_cells HX.out b1 _ hb17).trans ((below_cells HB7.out b1 _ hb1).trans d0))
              clear hb7 hog HGet hfd hlow hkeyJ d0 hb1
              go_upto_block 4 with (fail)
              generalize w7.alloc (.cells #[.string ⟨(optE N).key.toArray⟩, .int .u64 ((optE N).seq : Int), .bool (optE N).gone, .slice qg (optE N).val.length cg] 35) = X at *
              have HSX : Hid (En X (fun k => w6.heap.size ≤ k ∨ wr.heap.size ≤ k ∨ w.heap.size ≤ k ∨ True) (.slice ps ss.length cs) ss) := Lib.hid ((HSr7.out.below HX.out).mono fun _ _ _ => by simp)
              go_cut [15] (fun a wx => a = .int .i64 (J : Int) ∧ Hid (Below X.heap.size X wx))
              case first =>
                go_wp2_with fail
                go_loopw [15] (fun kk wr => ∃ j n, j ≤ J ∧ kk = .int .i64 ((j : Nat) : Int) ∧ wr = X.drewN n) (fun kk _ => ss.length - (intOf kk).toNat)
                case atStart => exact ⟨0, 0, by omega, rfl, rfl⟩
                case round =>
                  obtain ⟨j, n, hj, rfl, rfl⟩ := hrel
                  have hc0 := HC0.out
                  by_cases hjl : j < ss.length
                  · obtain ⟨b2, off2, q2, cc2, rfl, hb2, _, hV2, e0, e1, e2, e3⟩ := HSX.out.at_ (List.getElem?_eq_getElem hjl)
                    have HLo : Hid (j < J → (ss[j].key == x.key) = false) := Lib.hid fun h => HLow.out j _ h (List.getElem?_eq_getElem hjl)
                    have HHi : Hid (j = J → (ss[j].key == x.key) = true) := Lib.hid fun h => HKeyJ.out _ (by rw [← h]; exact List.getElem?_eq_getElem hjl)
                    generalize ss[j] = y at *
                    clear e1 e2 e3 hV2
                    by_cases hjJ : j < J
                    · have hq := HLo.out hjJ
                      have hqn : (y.key != x.key) = true := by simp [bne, hq]
                      go_wp2_with fail
                      go_quiet (fail)
                      go_wp2_with fail
                      go_roundw
                      case rel => exact ⟨j + 1, _, by omega, by go_num, rfl⟩
                      case measure => simp [intOf]; omega
                    · obtain rfl : j = J := by omega
                      have hq := HHi.out rfl
                      have hqn : (y.key != x.key) = false := by simp [bne, hq]
                      go_wp2_with fail
                      go_quiet (fail)
                      go_wp2_with fail
                      go_meet
                      exact ⟨rfl, Lib.hid (below_drewN (below_drewN (Below.refl _ _) _) _)⟩
                  · obtain rfl : j = J := by omega
                    obtain rfl : ss.length = j := by omega
                    go_wp2_with fail
                    go_quiet (fail)
                    go_wp2_with fail
                    go_meet
                    exact ⟨rfl, Lib.hid (below_drewN (below_drewN (Below.refl _ _) _) _)⟩
              case rest =>
                obtain ⟨rfl, HBx⟩ := hcut
                have hbox := (HBx.out.block w7.heap.size (block_lt HXb.out)).trans HXb.out
                have m0 := cell_of (i := 0) hbox rfl
                have m1 := cell_of (i := 1) hbox rfl
                have m2 := cell_of (i := 2) hbox rfl
                have m3 := cell_of (i := 3) hbox rfl
                have HBz : Hid (Below w6.heap.size w6 wc) := Lib.hid (HBq7.out.trans ((HX.out.trans (HBx.out.mono HX.out.size)).mono HBq7.out.size))
                have hways : (N = none ∧ ss.length = J) ∨ (∃ y, N = some y ∧ y.gone = true ∧ ss.length = J) ∨ (∃ y, N = some y ∧ y.gone = false ∧ ss[J]? = some y) := by
                  have hf := HFd.out
                  cases N with
                  | none => exact .inl ⟨rfl, by have := List.getElem?_eq_none_iff.1 (show ss[J]? = none by rw [hf]; rfl); omega⟩
                  | some y =>
                    cases hg : y.gone
                    · exact .inr (.inr ⟨y, rfl, hg, by rw [hf]; simp [Option.filter, hg]⟩)
                    · exact .inr (.inl ⟨y, rfl, hg, by have := List.getElem?_eq_none_iff.1 (show ss[J]? = none by rw [hf]; simp [Option.filter, hg]); omega⟩)
                clear hbox HFd HLow HKeyJ HXb
                have HW : Hid ((N.isSome = false ∧ ss.length = J) ∨ (N.isSome = true ∧ (optE N).gone = true ∧ ss.length = J) ∨ (N.isSome = true ∧ (optE N).gone = false ∧ ss[J]? = some (optE N))) := Lib.hid (by
                  rcases hways with ⟨rfl, h⟩ | ⟨y, rfl, h, h2⟩ | ⟨y, rfl, h, h2⟩
                  · exact .inl ⟨rfl, h⟩
                  · exact .inr (.inl ⟨rfl, h, h2⟩)
                  · exact .inr (.inr ⟨rfl, h, h2⟩))
                clear hways
                generalize N.isSome = is at *
                generalize optE N = g at *
                obtain ⟨gk, gq, gg, gv⟩ := g
                dsimp only at *
                rcases HW.out with ⟨rfl, hJ⟩ | ⟨rfl, rfl, hJ⟩ | ⟨rfl, rfl, hJ⟩
                · have hlt2 : decide ((J : Int) < (ss.length : Int)) = false := decide_eq_false (by omega)
                  have hlt3 : decide (J < ss.length) = false := decide_eq_false (by omega)
                  clear hJ
                  clear HW hJl
                  go_wp2_with fail
                  go_quiet (fail)
                  go_wp2_with fail
                  go_roundw
                  case rel => exact ⟨k + 1, by omega, by go_num, by go_num, below_drewN HBz.out _⟩
                  case measure => simp [intOf]; omega
                · have hlt2 : decide ((J : Int) < (ss.length : Int)) = false := decide_eq_false (by omega)
                  have hlt3 : decide (J < ss.length) = false := decide_eq_false (by omega)
                  clear hJ
                  clear HW hJl
                  go_wp2_with fail
                  go_quiet (fail)
                  go_wp2_with fail
                  go_roundw
                  case rel => exact ⟨k + 1, by omega, by go_num, by go_num, below_drewN HBz.out _⟩
                  case measure => simp [intOf]; omega
                · have hJl2 := (List.getElem?_eq_some_iff.1 hJ).1
                  have hlt2 : decide ((J : Int) < (ss.length : Int)) = true := decide_eq_true (by omega)
                  have hlt3 : decide (J < ss.length) = true := decide_eq_true hJl2
                  obtain ⟨b2, off2, q2, cc2, rfl, hb2, _, hV2, e0, e1, e2, e3⟩ := (HSX.out.below HBx.out).at_ hJ
                  obtain ⟨_, _, _, _, hvl, _⟩ := hV2.form
                  have HSame := Lib.hid (l5_same wc.drew ⟨gk, gq, false, gv⟩ ⟨gk, gq, false, gv⟩ _ _ qg q2 cg cc2 (((HOg.out.by_ (by simpa using hvl)).below (HX.out.trans (HBx.out.mono HX.out.size))).below (below_drew (Below.refl _ _))) (hV2.below (below_drew (Below.refl _ _))))
                  rw [sameE_refl] at HSame
                  clear hJ
                  clear HW hJl hV2 hvl hb2
                  dsimp only at e0 e1 e2 e3
                  go_wp2_with fail
                  refine wp_region_quiet_tail 22 (by kernel_rfl) (by kernel_rfl) ?_
                  simp only [List.take_succ_cons, List.take_zero, List.drop_succ_cons, List.drop_zero]
                  repeat (go_big_quiet_step (fail))
                  refine wpQuiet_nil ?_
                  clear m0 m1 m2 m3 e0 e1 e2 e3
                  go_wp2_with fail
                  refine HSame.out.mono ?_
                  rintro r w8 ⟨rfl, hb8⟩
                  have HB8 : Hid (Below w6.heap.size w6 w8) := Lib.hid ((below_drew HBz.out).trans (hb8.mono HBz.out.size))
                  clear hb8
                  go_wp2_with fail
                  go_roundw
                  case rel => exact ⟨k + 1, by omega, by go_num, by go_num, HB8.out⟩
                  case measure => simp [intOf]; omega
            · obtain rfl : k = es.length := by omega
              clear hEr
              go_wp2_with fail
              go_ret
              exact ⟨ret_bool (by simp), HB.out.trans (HBq.out.mono HB.out.size)⟩
end Go.Proofs.Ytdgkjekahepjgaa
