/-
  The walk over glacierlaw6.MergeMaps.
-/
import Derived.Test.YtaomneenflkpeaaMhD
import Derived.Test.YtaomneenflkpeaaMhE
import Derived.Test.YtaomneenflkpeaaMhM
import Derived.Test.YtaomneenflkpeaaMgI
import Derived.Lib.QuietBelow
namespace Go.Proofs.Ytaomneenflkpeaa
open Go.RowKit

/-- What the rounds keep: the map, its values below F; nothing below the map has changed. -/
structure MpR (w0 : World) (wm : World) (mb : Nat) (m : List Pe) (wr : World) : Prop where
  map : MapE wr mb m
  low : Below mb wm wr
  val : ∀ p ∈ m, By w0 (fun k => k < w0.heap.size) p.2 p.1.val
theorem MpR.after {w0 wm wr V : World} {mb : Nat} {m : List Pe} (h : MpR w0 wm mb m wr) (hV : Below wr.heap.size wr V) (hm : mb < wr.heap.size) : MpR w0 wm mb m V :=
  ⟨h.map.keep (hV.block mb hm), h.low.trans (hV.mono (Nat.le_of_lt hm)), h.val⟩
theorem MpR.lt {w0 wm wr : World} {mb : Nat} {m : List Pe} (h : MpR w0 wm mb m wr) : mb < wr.heap.size := (Array.getElem?_eq_some_iff.1 h.map.blk).1
theorem setP_val {m : List Pe} {x : Ent} {u : Value} {Q : Pe → Prop} (h : ∀ p ∈ m, Q p) (hx : Q (x, u)) : ∀ p ∈ putP m x u, Q p := fun p hp => by
  unfold putP at hp
  split at hp
  · rcases List.mem_append.1 hp with hp | hp
    · exact h p hp
    · rw [List.mem_singleton.1 hp]; exact hx
  · obtain ⟨q, hq, rfl⟩ := List.mem_map.1 hp
    split
    · exact hx
    · exact h q hq

theorem ixE (W : World) (g o n c j : Nat) (hj : j + 1 < n + 1) : (Instr.indexAt 22 (.slice (some ⟨g, o, none⟩) n c) (.int .i64 (((j + 1 : Nat) : Int) - 1))).run Try.prog W = .ok (.pointer (some ⟨g, o + j * 4, none⟩)) W := by
  have h0 : Try.prog.underlying 22 = some (.slice (Try.prog.elem 22)) := by rw [slEnt.elem]; exact slEnt.under
  have h1 := run_indexAt_slice (P := Try.prog) (w := W) 22 ⟨g, o, none⟩ n c .i64 (((j + 1 : Nat) : Int) - 1) h0
  rw [if_pos (by omega), slEnt.elem, slEnt.size] at h1
  rw [h1]
  have e : (((j + 1 : Nat) : Int) - 1).toNat = j := by omega
  simp only [Result.andThen, e]
  rw [Addr.add_mid]

set_option maxRecDepth 100000 in
set_option maxHeartbeats 8000000 in
theorem maps_any (w : World) (v0 : Value) (ls : List (List Ent)) (h0 : Els w (fun k => k < w.heap.size) v0 ls) (hf : ∀ l ∈ ls, ∀ x ∈ l, FitE x) (hl : ∀ l ∈ ls, l.length ≤ 1048576) (up : Nat) (hup : up < 18446744073709551616) :
    Calls Try.prog 5 #[v0, .int .u64 (up : Int)] w fun r W' => r = .returned (.bool true) ∧ Below w.heap.size w W' := by
  obtain ⟨p0, c0, rfl, hlc0, hl47, hcm0, _⟩ := h0.form
  have H0 := Lib.hid h0
  have HF := Lib.hid hf
  have HKn := Lib.hid (mg_known w)
  obtain ⟨fw, hfw⟩ : ∃ fw, fewL ls = fw := ⟨_, rfl⟩
  have HFw := Lib.hid hfw
  have HLl := Lib.hid hl
  clear h0 hf hfw hl
  go_enter Try.func5, Try.ntmps5
  go_wp2_with fail
  refine HKn.out.mono ?_
  rintro r w1 ⟨rfl, hb1⟩
  have hfew := l6_few w1 _ _ ls (H0.out.below hb1) HF.out HLl.out
  rw [HFw.out] at hfew
  have HFew := Lib.hid hfew
  have HB1 := Lib.hid hb1
  clear hb1 hfew HKn
  go_wp2_with fail
  refine HFew.out.mono ?_
  rintro r w2' ⟨rfl, nq, rfl⟩
  obtain ⟨w2, hw2⟩ : ∃ w2, w1.drewN nq = w2 := ⟨_, rfl⟩
  have HB2 : Hid (Below w.heap.size w w2) := Lib.hid (by rw [← hw2]; exact below_drewN HB1.out _)
  rw [hw2]
  clear hw2 HFew HB1
  cases fw
  · go_wp2_with fail
    go_ret
    exact ⟨rfl, HB2.out⟩
  · obtain ⟨h30, h1000, h3000⟩ := fewL_of HFw.out
    have hM := mg_merge w2 _ _ ls (H0.out.below HB2.out) HF.out (by omega) 1000 h1000 (by omega)
    by_cases hall : ∀ l ∈ ls, rightE l = true
    · have hM2 : Calls Try.prog 18 #[.slice p0 ls.length c0] w2 fun r w' => Below w2.heap.size w2 w' ∧ ∃ u, r = .returned (.tuple #[u, .int .i64 0]) ∧ En w' (fun k => w2.heap.size ≤ k) u (mrgL ls) := hM.mono fun r w' ⟨hb, h⟩ => ⟨hb, h.elim And.right (fun ⟨⟨l, hl, h1⟩, _⟩ => by rw [hall l hl] at h1; cases h1)⟩
      have HM := Lib.hid hM2
      have HAll := Lib.hid hall
      have HSrt : Hid (∀ l ∈ ls, SrtE l) := Lib.hid (fun l hl => (rightE_iff.1 (hall l hl)).2)
      have hmr := mrgL_right hall
      have hmf : ∀ x ∈ mrgL ls, FitE x := fun x hx => by
        obtain ⟨l, hl, hxl⟩ := inM_mem (((mrgL_is HSrt.out).mem x).1 hx)
        exact HF.out l hl x hxl
      have hml : (mrgL ls).length ≤ 3000 := by
        have h9 := nodup_len (mrgL ls) ls.flatten (List.Pairwise.imp (fun {a b} h e => by rw [e, lessE_irrefl] at h; cases h) (mrgL_is HSrt.out).srt) (fun x hx => by
          obtain ⟨l, hl, hxl⟩ := inM_mem (((mrgL_is HSrt.out).mem x).1 hx)
          exact List.mem_flatten.2 ⟨l, hl, hxl⟩)
        omega
      have HSn : Hid (∀ V F v, En V F v (mrgL ls) → Calls Try.prog 21 #[v, .int .u64 (up : Int)] V fun r w' => ∃ u, r = .returned (.tuple #[u, .int .i64 0]) ∧ En w' (fun k => V.heap.size ≤ k) u (seenE (mrgL ls) up) ∧ Below V.heap.size V w') := Lib.hid (fun V F v hE => mg_seen V F v (mrgL ls) hE hmr hmf (by omega) up)
      have HBs : Hid (∀ x, x ∈ seenE (mrgL ls) up ↔ x ∈ bstL up ls.flatten ∧ x.gone = false) := Lib.hid (seen_bst HSrt.out up)
      have HKs := Lib.hid (seen_keys (mrgL_is HSrt.out).srt up)
      have HCt := Lib.hid (bst_count HSrt.out up)
      have hsl : (seenE (mrgL ls) up).length ≤ 3000 := Nat.le_trans (List.length_filter_le ..) hml
      clear hM hM2 hall hmr hmf hml
      generalize mrgL ls = ml at *
      generalize seenE ml up = ss at *
      go_wp2_with fail
      refine HM.out.mono ?_
      rintro r w3 ⟨hb3, ua, rfl, hE3⟩
      obtain ⟨pa, ca, rfl, _, _, _, _⟩ := hE3.form
      have HSq := Lib.hid (HSn.out _ _ _ hE3)
      have HB3 := Lib.hid (HB2.out.trans (hb3.mono HB2.out.size))
      clear hb3 hE3 HSn
      go_wp2_with fail
      refine HSq.out.mono ?_
      rintro r w4 ⟨ub, rfl, hE4, hb4⟩
      obtain ⟨ps, cs, rfl, hsc, _, hscm, _⟩ := hE4.form
      have HS4 := Lib.hid (hE4.mono (G := fun _ => True) fun _ _ _ => trivial)
      have HB4 := Lib.hid (HB3.out.trans (hb4.mono HB3.out.size))
      clear hb4 hE4 HSq
      obtain ⟨wm, hwm⟩ : ∃ wm, w4.alloc (.map #[] 0) = wm := ⟨_, rfl⟩
      obtain ⟨mb, hmb⟩ : ∃ mb, w4.heap.size = mb := ⟨_, rfl⟩
      have hR0 : MpR w wm mb [] wm := by
        subst hmb
        refine ⟨⟨?_, List.Pairwise.nil⟩, Below.refl _ _, fun p hp => by cases hp⟩
        rw [← hwm]
        exact heap_alloc_new w4 _
      have hbm : Below mb w4 wm := by rw [← hwm, ← hmb]; exact (Below.refl _ _).alloc (Nat.le_refl _) _
      have HBm : Hid (Below w.heap.size w wm) := Lib.hid (HB4.out.trans (hbm.mono (by rw [← hmb]; exact HB4.out.size)))
      have HSm : Hid (∀ V, Below mb wm V → En V (fun _ => True) (.slice ps ss.length cs) ss) := Lib.hid (fun V hV => HS4.out.below (by rw [hmb]; exact hbm.trans hV))
      have HMb : Hid (w.heap.size ≤ mb) := Lib.hid (by rw [← hmb]; exact HB4.out.size)
      have HR0 := Lib.hid hR0
      clear hR0 hbm
      have hmm := @run_makeMap Try.prog
      go_wp2_with fail
      clear hwm hmb hmm
      go_loopg [9] ls.length (fun g iv wr => ∃ (pre rest : List (List Ent)) (m : List Pe), ls = pre ++ rest ∧ g = rest.length ∧ iv = .int .i64 (pre.length : Int) ∧ m.map Prod.fst = bstL up pre.flatten ∧ MpR w wm mb m wr)
      case atStart => exact ⟨[], ls, [], rfl, rfl, rfl, rfl, HR0.out⟩
      case round =>
        obtain ⟨pre, rest, m, hls, rfl, rfl, hmm, hR⟩ := hrel
        have HR := Lib.hid (And.intro hmm hR)
        have hlen := congrArg List.length hls
        rw [List.length_append] at hlen
        clear hmm hR
        rcases rest with _ | ⟨l, rest⟩
        · rw [List.append_nil] at hls
          subst hls
          clear hlen
          obtain ⟨wo, hwo⟩ : ∃ wo, wo = wr := ⟨_, rfl⟩
          subst hwo
          have hrg := run_range_map (P := Try.prog) wo 54 9 30 mb (entB 0 m).toArray m.length Try.underlying54 HR.out.2.map.blk
          have HCn : Hid (∀ seen, 0 ≤ cntB (entB 0 m) seen ∧ cntB (entB 0 m) seen ≤ (entB 0 m).length) := Lib.hid (seenSum_le (entB 0 m))
          have HLe : Hid ((entB 0 m).length = m.length ∧ m.length ≤ 3000) := Lib.hid ⟨entB_len m 0, by
            have h1 := nodup_len (m.map Prod.fst) ls.flatten (by
              rw [HR.out.1]
              exact List.Pairwise.imp (fun {a b} h e => h (by rw [e])) (bstL_is up ls.flatten).keys) (fun x hx => by
              rw [HR.out.1] at hx
              exact ((bstL_is up ls.flatten).mem x hx).1.mem)
            rw [List.length_map] at h1
            omega⟩
          obtain ⟨ib, hib⟩ : ∃ ib, wo.heap.size = ib := ⟨_, rfl⟩
          rw [hib] at hrg
          go_wp2_with fail
          clear hrg
          go_loopg [14] (leftOf (entB 0 m).toArray #[]).size (fun g s w' => ∃ (w1 : World) (seen : Array Nat), g = (leftOf (entB 0 m).toArray seen).size ∧ w1.heap = wo.heap ∧ w1.os = wo.os ∧ w1.output = wo.output ∧ w1.tape = wo.tape ∧ w' = w1.alloc (.mapIter (some mb) m.length seen m.length) ∧ s = .int .i64 (cntB (entB 0 m) seen))
          case atStart => exact ⟨wo, #[], rfl, rfl, rfl, rfl, rfl, rfl, by rw [cntB_none]⟩
          case round =>
            obtain ⟨w1, seen, rfl, ha1, ha2, ha3, ha4, rfl, rfl⟩ := hrel
            have HA := Lib.hid (And.intro ha1 (And.intro ha2 (And.intro ha3 ha4)))
            have hsz : w1.heap.size = ib := by rw [ha1]; exact hib
            have law := next_map w1 0 mb m (HR.out.2.map.keep (by rw [ha1])) seen
            rw [hsz] at law
            obtain ⟨c1, c2⟩ := HCn.out seen
            have hle := HLe.out
            clear ha1 ha2 ha3 ha4
            rcases law with ⟨h0, hrun⟩ | ⟨e, p, he, hem, hsn, hp, hk1, hv1, w2, hb1, hb2, hb3, hb4, hrun, hen⟩
            · have hnx : ∀ ty, (Instr.next (.pointer (some ⟨ib, 0, none⟩)) false ty).run Try.prog (w1.alloc (.mapIter (some mb) m.length seen m.length)) = _ := fun _ => hrun
              have hcnt : cntB (entB 0 m) seen = (ss.length : Int) := by
                have h8 := cntB_all (entB 0 m).toArray seen h0
                have h7 := count_entB m 0
                rw [HR.out.1, HCt.out] at h7
                exact h8.trans h7
              obtain ⟨V, hV⟩ : ∃ V, w1.alloc (.mapIter (some mb) m.length seen m.length) = V := ⟨_, rfl⟩
              have hbV : Below wo.heap.size wo V := by
                rw [← hV]
                have h6 : Below wo.heap.size wo w1 := ⟨HA.out.2.1, HA.out.2.2.2, HA.out.2.2.1, by rw [HA.out.1]; exact Nat.le_refl _, fun k _ => by rw [HA.out.1]⟩
                exact h6.alloc (by rw [HA.out.1]; exact Nat.le_refl _) _
              have HRV := Lib.hid (HR.out.2.after hbV HR.out.2.lt)
              have HMm := Lib.hid HR.out.1
              rw [hcnt] at c1 c2
              rw [hcnt]
              rw [hV] at hrun hnx
              rw [hV]
              clear hbV hcnt hV HR0 HA c1 c2 h0 hle HCn hib
              go_wp2_with fail
              clear hnx hrun
              go_loopg [16] ss.length (fun g iv wr => ∃ k : Nat, k + g = ss.length ∧ iv = .int .i64 (k : Int) ∧ Below V.heap.size V wr)
              case atStart => exact ⟨0, by omega, rfl, Below.refl _ _⟩
              case round =>
                obtain ⟨k, hkg, rfl, hbr⟩ := hrel
                have HBr := Lib.hid hbr
                clear hbr
                cases gk with
                | zero =>
                  have hk : k = ss.length := by omega
                  subst hk
                  go_wp2_with fail
                  go_ret
                  exact ⟨rfl, HBm.out.trans ((HRV.out.low.trans (HBr.out.mono (Nat.le_of_lt HRV.out.lt))).mono HMb.out)⟩
                | succ g =>
                  have hkl : k < ss.length := by omega
                  have hbV : Below mb wm wr := HRV.out.low.trans (HBr.out.mono (Nat.le_of_lt HRV.out.lt))
                  have hmap : MapE wr mb m := HRV.out.map.keep (HBr.out.block mb HRV.out.lt)
                  obtain ⟨g1, o1, qv, cv, hps, hg1, _, hBv, e0, e1, e2, e3⟩ := (HSm.out wr hbV).at_ (List.getElem?_eq_getElem hkl)
                  have hss := (HBs.out ss[k]).1 (List.getElem_mem hkl)
                  rw [← HMm.out] at hss
                  obtain ⟨p8, hp8, hpe⟩ := List.mem_map.1 hss.1
                  obtain ⟨n9, p9, hp9, hpx⟩ := idxP_of hmap.keys hp8
                  rw [hpe] at hp9 hpx
                  have hlk := hmap.look ss[k].key true
                  rw [if_pos rfl] at hlk
                  unfold getE at hlk
                  rw [hp9] at hlk
                  dsimp only at hlk
                  have hBy9 := HRV.out.val p9 (idxP_mem hp9).1
                  rw [hpx] at hlk hBy9
                  obtain ⟨q9, c9, hq9, _⟩ := hBy9.form
                  unfold entV at hlk
                  rw [hq9, hss.2] at hlk
                  rw [hss.2] at e2
                  rw [hq9] at hBy9
                  obtain ⟨W1, hW1⟩ : ∃ W1, wr.alloc (.cells #[.string ⟨ss[k].key.toArray⟩, .int .u64 (ss[k].seq : Int), .bool false, .slice q9 ss[k].val.length c9] 30) = W1 := ⟨_, rfl⟩
                  obtain ⟨xb, hxn⟩ : ∃ xb, wr.heap.size = xb := ⟨_, rfl⟩
                  have hb1 : Below wr.heap.size wr W1 := by rw [← hW1]; exact (Below.refl _ _).alloc (Nat.le_refl _) _
                  have hxb : W1.heap[xb]? = some (.cells #[.string ⟨ss[k].key.toArray⟩, .int .u64 (ss[k].seq : Int), .bool false, .slice q9 ss[k].val.length c9] 30 (0, 0)) := by rw [← hW1, ← hxn]; exact heap_alloc_new wr _
                  have HB1 := Lib.hid hb1
                  have HSame : Hid (∀ X, Below W1.heap.size W1 X → Calls Try.prog 15 #[.agg #[.string ⟨ss[k].key.toArray⟩, .int .u64 (ss[k].seq : Int), .bool false, .slice q9 ss[k].val.length c9], .agg #[.string ⟨ss[k].key.toArray⟩, .int .u64 (ss[k].seq : Int), .bool false, .slice qv ss[k].val.length cv]] X
                      fun e w' => e = .returned (.bool true) ∧ Below X.heap.size X w') := Lib.hid (fun X hX => by
                    have h9 := l5_same X ss[k] ss[k] _ _ q9 qv c9 cv ((hBy9.below (HBm.out.trans (hbV.mono HMb.out))).below (hb1.trans (hX.mono hb1.size))) (hBv.below (hb1.trans (hX.mono hb1.size)))
                    rw [sameE_refl, hss.2] at h9
                    exact h9)
                  have hxlt : xb < W1.heap.size := block_lt hxb
                  have hg1l : g1 < W1.heap.size := Nat.lt_of_lt_of_le hg1 hb1.size
                  have y0 := cell_of (i := 0) hxb rfl
                  have y1 := cell_of (i := 1) hxb rfl
                  have y2 := cell_of (i := 2) hxb rfl
                  have y3 := cell_of (i := 3) hxb rfl
                  have u0 := (below_cells hb1 g1 _ hg1).trans e0
                  have u1 := (below_cells hb1 g1 _ hg1).trans e1
                  have u2 := (below_cells hb1 g1 _ hg1).trans e2
                  have u3 := (below_cells hb1 g1 _ hg1).trans e3
                  have HKl := Lib.hid hkl
                  subst hps
                  by_cases hk0 : k = 0
                  · have q0 : decide ((0 : Int) < (k : Int)) = false := decide_eq_false (by omega)
                    have q0n : decide (0 < k) = false := decide_eq_false (by omega)
                    clear hk0
                    generalize hx : ss[k] = x at *
                    clear hx hBv hss hp8 hpe hp9 hpx hBy9 hq9 hb1 hxb hmap hbV e1 e2 e3
                    go_upto_region 32 with (fail)
                    have y0' := fun d os => cell_regrown y0 d os
                    have y1' := fun d os => cell_regrown y1 d os
                    have y2' := fun d os => cell_regrown y2 d os
                    have y3' := fun d os => cell_regrown y3 d os
                    have u0' := fun d os => cell_regrown u0 d os
                    have u1' := fun d os => cell_regrown u1 d os
                    have u2' := fun d os => cell_regrown u2 d os
                    have u3' := fun d os => cell_regrown u3 d os
                    clear y0 y1 y2 y3 u0 u1 u2 u3
                    refine wp_region_quiet_below (by kernel_rfl) (by kernel_rfl) ?_
                    repeat (go_big_quiet_step (exact Calls.regrown_of (HSame.out _ (below_regrown _ _ _))))
                    refine wpQuiet_nil ?_
                    intro w8 hw8
                    obtain ⟨⟨dq, osq⟩, hw9⟩ := hw8
                    subst hw9
                    have HB8 : Hid (Below W1.heap.size W1 (Go.Sort.grow (redrawn W1 dq) osq)) := Lib.hid (below_regrown W1 dq osq)
                    go_wp2_with fail
                    go_roundg g
                    case measure => omega
                    case rel => exact ⟨k + 1, by omega, by go_num, HBr.out.trans ((HB1.out.trans (HB8.out.mono HB1.out.size)).mono HBr.out.size)⟩
                  · obtain ⟨j, hj⟩ : ∃ j, k = j + 1 := ⟨k - 1, by omega⟩
                    have q0 : decide ((0 : Int) < (k : Int)) = true := decide_eq_true (by omega)
                    have q0n : decide (0 < k) = true := decide_eq_true (by omega)
                    have hjl : j < ss.length := by omega
                    obtain ⟨g2, o2, q2, c2, hps2, hg2, _, _, f0, _⟩ := (HSm.out wr hbV).at_ (List.getElem?_eq_getElem hjl)
                    obtain ⟨rfl, rfl⟩ : g1 = g2 ∧ o1 = o2 := by simpa using hps2
                    have HLess : Hid (Op.bytesLess ss[j].key ss[k].key = true) := Lib.hid ((List.pairwise_iff_getElem.1 HKs.out) j k hjl hkl (by omega))
                    have t0 := (below_cells hb1 g1 _ hg1).trans f0
                    have hix : ∀ W, (Instr.indexAt 22 (.slice (some ⟨g1, o1, none⟩) ss.length cs) (.int .i64 ((k : Int) - 1))).run Try.prog W = .ok (.pointer (some ⟨g1, o1 + j * 4, none⟩)) W := fun W => by rw [hj]; exact ixE W g1 o1 ss.length cs j (by omega)
                    have hwr : IntKind.i64.wrap ((k : Int) - 1) = (k : Int) - 1 := IntWalk.i64_in _ (by have := HKl.out; omega)
                    generalize hx : ss[k] = x at *
                    generalize hz : ss[j] = z at *
                    have HJ := Lib.hid hj
                    clear hx hz hBv hss hp8 hpe hp9 hpx hBy9 hq9 hb1 hxb hmap hbV e1 e2 e3 hps2 hj hk0
                    have q3 : Op.bytesLess z.key x.key = true := HLess.out
                    go_upto_region 32 with (fail)
                    have y0' := fun d os => cell_regrown y0 d os
                    have y1' := fun d os => cell_regrown y1 d os
                    have y2' := fun d os => cell_regrown y2 d os
                    have y3' := fun d os => cell_regrown y3 d os
                    have u0' := fun d os => cell_regrown u0 d os
                    have u1' := fun d os => cell_regrown u1 d os
                    have u2' := fun d os => cell_regrown u2 d os
                    have u3' := fun d os => cell_regrown u3 d os
                    have t0' := fun d os => cell_regrown t0 d os
                    clear y0 y1 y2 y3 u0 u1 u2 u3 t0
                    refine wp_region_quiet_below (by kernel_rfl) (by kernel_rfl) ?_
                    repeat (go_big_quiet_step (exact Calls.regrown_of (HSame.out _ (below_regrown _ _ _))))
                    refine wpQuiet_nil ?_
                    intro w8 hw8
                    obtain ⟨⟨dq, osq⟩, hw9⟩ := hw8
                    subst hw9
                    have HB8 : Hid (Below W1.heap.size W1 (Go.Sort.grow (redrawn W1 dq) osq)) := Lib.hid (below_regrown W1 dq osq)
                    go_wp2_with fail
                    go_roundg g
                    case measure => omega
                    case rel => exact ⟨k + 1, by omega, by go_num, HBr.out.trans ((HB1.out.trans (HB8.out.mono HB1.out.size)).mono HBr.out.size)⟩
            · have hnx : ∀ ty, (Instr.next (.pointer (some ⟨ib, 0, none⟩)) false ty).run Try.prog (w1.alloc (.mapIter (some mb) m.length seen m.length)) = _ := fun _ => hrun
              have hsz2 : w2.heap.size = ib := by rw [hb1]; exact hsz
              have HB := Lib.hid (And.intro (hb1.trans HA.out.1) (And.intro (hb2.trans HA.out.2.1) (And.intro (hb3.trans HA.out.2.2.1) (hb4.trans HA.out.2.2.2))))
              have hmk : MapE (w2.alloc (.mapIter (some mb) m.length (seen.push e.born) m.length)) mb m := HR.out.2.map.keep (by rw [heap_alloc_old _ _ (by rw [hb1, HA.out.1]; exact HR.out.2.lt), hb1, HA.out.1])
              have hlk := hmk.look p.1.key false
              rw [if_neg (by decide)] at hlk
              obtain ⟨n9, p9, hp9, hp8⟩ := idxP_of hmk.keys hp
              unfold getE at hlk
              rw [hp9] at hlk
              dsimp only at hlk
              rw [hp8] at hlk
              have HPu := Lib.hid (cntB_push (entB 0 m) seen e hsn (entB_born m 0) hem)
              have HSh := Lib.hid (left_shrinks (entB 0 m).toArray seen e he)
              rw [hv1, goneV_ent] at HPu
              unfold entV at hlk hen hrun
              have hnx : ∀ ty, (Instr.next (.pointer (some ⟨ib, 0, none⟩)) false ty).run Try.prog (w1.alloc (.mapIter (some mb) m.length seen m.length)) = _ := fun _ => hrun
              have hfd := field_gone
              clear hmk hp9 hp8 hb1 hb2 hb3 hb4 hem hsn hp he hk1 hv1
              rcases hgn : p.1.gone with _ | _
              · rw [hgn] at HPu hlk hen hnx hrun
                go_wp2_with fail
                go_roundg (leftOf (entB 0 m).toArray (seen.push e.born)).size
                case rel => exact ⟨w2, seen.push e.born, rfl, HB.out.1, HB.out.2.1, HB.out.2.2.1, HB.out.2.2.2, rfl, by
                  have h9 := HPu.out
                  simp only [Bool.false_eq_true, if_false] at h9
                  rw [h9]⟩
                case measure => exact HSh.out
              · rw [hgn] at HPu hlk hen hnx hrun
                go_wp2_with fail
                go_roundg (leftOf (entB 0 m).toArray (seen.push e.born)).size
                case rel => exact ⟨w2, seen.push e.born, rfl, HB.out.1, HB.out.2.1, HB.out.2.2.1, HB.out.2.2.2, rfl, by
                  have h9 := HPu.out
                  simp only [if_true] at h9
                  rw [h9]
                  first | rfl | (simp; done) | go_num⟩
                case measure => exact HSh.out
        · have hk : ls[pre.length]? = some l := by rw [hls]; simp
          obtain ⟨b, off, q, c, rfl, hb, hc, hE⟩ := H0.out.at_ hk
          have hmem : l ∈ ls := List.mem_of_getElem? hk
          have hlt : pre.length < ls.length := by simp only [List.length_cons] at hlen; omega
          have hl1 := h1000 l hmem
          have HLs := Lib.hid hls
          obtain ⟨us, hus⟩ := hE
          have HUs := Lib.hid hus
          have hfl : ∀ x ∈ l, FitE x := HF.out l hmem
          have HFl := Lib.hid hfl
          have HLq : Hid (∀ V, Below mb wm V → V.cell? ⟨b, off + pre.length, none⟩ = some (.slice q l.length c)) := Lib.hid (fun V hV => (below_cells (HBm.out.trans (hV.mono HMb.out)) b _ hb).trans hc)
          clear hls hlen hmem hk hc hus hfl
          obtain ⟨wo, hwo⟩ : ∃ wo, wo = wr := ⟨_, rfl⟩
          subst hwo
          have k0 := HLq.out _ HR.out.2.low
          go_wp2_with fail
          go_loopg [10] l.length (fun g kv wr => ∃ (k : Nat) (m : List Pe), k + g = l.length ∧ kv = .int .i64 (k : Int) ∧ m.map Prod.fst = bstL up (pre.flatten ++ l.take k) ∧ MpR w wm mb m wr)
          case atStart => exact ⟨0, m, by omega, rfl, by simpa using HR.out.1, HR.out.2⟩
          case round =>
            obtain ⟨k, m2, hkg, rfl, hmm, hR⟩ := hrel
            have HR2 := Lib.hid (And.intro hmm hR)
            clear hmm hR k0
            have k1 := HLq.out _ HR2.out.2.low
            cases gk with
            | zero =>
              have hk : k = l.length := by omega
              subst hk
              go_wp2_with fail
              go_roundg rest.length
              case measure => simp
              case rel =>
                have h9 := HR2.out.1
                rw [List.take_length] at h9
                exact ⟨pre ++ [l], rest, m2, HLs.out.trans (by simp), rfl, by simp, by rw [h9]; simp, HR2.out.2⟩
            | succ g =>
              have hkl : k < l.length := by omega
              obtain ⟨g1, o1, qv, cv, rfl, hg1, _, hu, hBy, e0, e1, e2, e3⟩ := HUs.out.at_ (List.getElem?_eq_getElem hkl)
              have hbw := HBm.out.trans (HR2.out.2.low.mono HMb.out)
              have x0 := (below_cells hbw g1 _ hg1).trans e0
              have x1 := (below_cells hbw g1 _ hg1).trans e1
              have x2 := (below_cells hbw g1 _ hg1).trans e2
              have x3 := (below_cells hbw g1 _ hg1).trans e3
              have hxs := (HFl.out l[k] (List.getElem_mem hkl)).seq
              have HTk : Hid (bstL up (pre.flatten ++ l.take (k + 1)) = putB up (m2.map Prod.fst) l[k]) := Lib.hid (by
                rw [HR2.out.1, ← bstL_snoc, List.append_assoc, List.take_add_one, List.getElem?_eq_getElem hkl]
                rfl)
              have HBy := Lib.hid hBy
              clear hbw e0 e1 e2 e3 hu hBy
              generalize l[k] = x at *
              obtain ⟨W1, hW1⟩ : ∃ W1, wr.alloc (.cells #[.string ⟨x.key.toArray⟩, .int .u64 (x.seq : Int), .bool x.gone, .slice qv x.val.length cv] 30) = W1 := ⟨_, rfl⟩
              have hb1 : Below wr.heap.size wr W1 := by rw [← hW1]; exact (Below.refl _ _).alloc (Nat.le_refl _) _
              have hxb : W1.heap[wr.heap.size]? = some (.cells #[.string ⟨x.key.toArray⟩, .int .u64 (x.seq : Int), .bool x.gone, .slice qv x.val.length cv] 30 (0, 0)) := by rw [← hW1]; exact heap_alloc_new wr _
              obtain ⟨xb, hxn⟩ : ∃ xb, wr.heap.size = xb := ⟨_, rfl⟩
              have hR1 := HR2.out.2.after hb1 HR2.out.2.lt
              have hlk := hR1.map.look x.key true
              rw [if_pos rfl] at hlk
              have y0 := cell_of (i := 0) hxb rfl
              have y1 := cell_of (i := 1) hxb rfl
              have y2 := cell_of (i := 2) hxb rfl
              have y3 := cell_of (i := 3) hxb rfl
              have HXb := Lib.hid hxb
              have HR1 := Lib.hid hR1
              have HMb2 : Hid (mb < xb) := Lib.hid (by rw [← hxn]; exact HR2.out.2.lt)
              rw [hxn] at y0 y1 y2 y3 hxb HXb
              have hidx := idxP_look m2 x.key
              unfold getE at hlk
              obtain ⟨has, y, qy, cy, hgot, hhas, hput⟩ : ∃ (has : Bool) (y : Ent) (qy : Option Addr) (cy : Nat), (Instr.lookup 54 (.map (some mb)) (.string ⟨x.key.toArray⟩) true).run Try.prog W1 = .ok (.tuple #[.agg #[.string ⟨y.key.toArray⟩, .int .u64 (y.seq : Int), .bool y.gone, .slice qy y.val.length cy], .bool has]) W1 ∧
                  (y.seq < 18446744073709551616) ∧ (putB up (m2.map Prod.fst) x = if x.seq ≤ up ∧ (has = false ∨ y.seq < x.seq) then (putP m2 x (.slice qv x.val.length cv)).map Prod.fst else m2.map Prod.fst) := by
                rcases e : idxP m2 x.key with _ | ⟨n, p⟩
                · rw [e] at hlk hidx
                  refine ⟨false, ⟨[], 0, false, []⟩, none, 0, hlk, by decide, ?_⟩
                  by_cases hc : x.seq ≤ up
                  · rw [if_pos ⟨hc, .inl rfl⟩, putP_put up m2 x _ hc (fun y hy => by rw [← hidx] at hy; cases hy)]
                  · rw [if_neg (fun h => hc h.1)]
                    unfold putB
                    rw [if_pos (by omega)]
                · rw [e] at hlk hidx
                  obtain ⟨qy, cy, hq, _⟩ := (HR1.out.val p (idxP_mem e).1).form
                  have hys : p.1.seq < 18446744073709551616 := by
                    have h1 := (bstL_is up (pre.flatten ++ l.take k)).mem p.1 (by rw [← HR2.out.1]; exact List.mem_map_of_mem (idxP_mem e).1)
                    omega
                  refine ⟨true, p.1, qy, cy, ?_, hys, ?_⟩
                  · rw [hlk]
                    simp only [entV, hq, Option.isSome]
                  · by_cases hc : x.seq ≤ up
                    · by_cases hlt : p.1.seq < x.seq
                      · rw [if_pos ⟨hc, .inr hlt⟩, putP_put up m2 x _ hc (fun y hy => by rw [← hidx] at hy; cases hy; exact hlt)]
                      · rw [if_neg (fun h => h.2.elim (fun h => by cases h) hlt)]
                        unfold putB
                        rw [if_neg (by omega), ← hidx]
                        simp only [Option.map_some]
                        rw [if_neg hlt]
                    · rw [if_neg (fun h => hc h.1)]
                      unfold putB
                      rw [if_pos (by omega)]
              obtain ⟨W2, hW2⟩ : ∃ W2, W1.alloc (.cells #[.string ⟨y.key.toArray⟩, .int .u64 (y.seq : Int), .bool y.gone, .slice qy y.val.length cy] 30) = W2 := ⟨_, rfl⟩
              have hb2 : Below W1.heap.size W1 W2 := by rw [← hW2]; exact (Below.refl _ _).alloc (Nat.le_refl _) _
              have hyb : W2.heap[W1.heap.size]? = some (.cells #[.string ⟨y.key.toArray⟩, .int .u64 (y.seq : Int), .bool y.gone, .slice qy y.val.length cy] 30 (0, 0)) := by rw [← hW2]; exact heap_alloc_new W1 _
              have hxb2 := (hb2.block _ (block_lt HXb.out)).trans HXb.out
              have z1 := cell_of (i := 1) hyb rfl
              have v0 := cell_of (i := 0) hxb2 rfl
              have v1 := cell_of (i := 1) hxb2 rfl
              have v2 := cell_of (i := 2) hxb2 rfl
              have v3 := cell_of (i := 3) hxb2 rfl
              have hR3 := HR1.out.after hb2 HR1.out.lt
              obtain ⟨W3, hrun, hM3, hk3, hs3, ho3, ht3, hp3⟩ := hR3.map.put x (.slice qv x.val.length cv)
              have HR3 := Lib.hid hR3
              have HR4 : Hid (MpR w wm mb (putP m2 x (.slice qv x.val.length cv)) W3) := Lib.hid
                ⟨hM3, HR3.out.low.trans ⟨ho3, ht3, hp3, by omega, fun k hk => hk3 k (by omega)⟩, setP_val (Q := fun p => By w (fun k => k < w.heap.size) p.2 p.1.val) HR3.out.val HBy.out⟩
              have HPut := Lib.hid (HTk.out.trans hput)
              unfold entV at hrun
              clear hxb hb1 hlk hb2 hyb hxb2 hR3 hM3 hk3 hs3 ho3 ht3 hp3 hput HTk hidx hR1
              by_cases hc : x.seq ≤ up
              · have q1 : decide ((x.seq : Int) ≤ (up : Int)) = true := decide_eq_true (by omega)
                have q1n : decide (x.seq ≤ up) = true := decide_eq_true hc
                cases has
                · have HP9 := Lib.hid (HPut.out.trans (if_pos ⟨hc, .inl rfl⟩))
                  go_wp2_with fail
                  go_roundg g
                  case measure => omega
                  case rel => exact ⟨k + 1, _, by omega, by go_num, HP9.out.symm, HR4.out⟩
                · by_cases hlt2 : y.seq < x.seq
                  · have HP9 := Lib.hid (HPut.out.trans (if_pos ⟨hc, .inr hlt2⟩))
                    have q2 : decide ((y.seq : Int) < (x.seq : Int)) = true := decide_eq_true (by omega)
                    have q2n : decide (y.seq < x.seq) = true := decide_eq_true hlt2
                    go_wp2_with fail
                    go_roundg g
                    case measure => omega
                    case rel => exact ⟨k + 1, _, by omega, by go_num, HP9.out.symm, HR4.out⟩
                  · have HP9 := Lib.hid (HPut.out.trans (if_neg (fun h => h.2.elim (fun h => by cases h) hlt2)))
                    have q2 : decide ((y.seq : Int) < (x.seq : Int)) = false := decide_eq_false (by omega)
                    have q2n : decide (y.seq < x.seq) = false := decide_eq_false hlt2
                    go_wp2_with fail
                    go_roundg g
                    case measure => omega
                    case rel => exact ⟨k + 1, m2, by omega, by go_num, HP9.out.symm, HR3.out⟩
              · have HP9 := Lib.hid (HPut.out.trans (if_neg (fun h => hc h.1)))
                have q1 : decide ((x.seq : Int) ≤ (up : Int)) = false := decide_eq_false (by omega)
                have q1n : decide (x.seq ≤ up) = false := decide_eq_false hc
                go_wp2_with fail
                go_roundg g
                case measure => omega
                case rel => exact ⟨k + 1, m2, by omega, by go_num, HP9.out.symm, HR3.out⟩
    · have hM2 : Calls Try.prog 18 #[.slice p0 ls.length c0] w2 fun r w' => Below w2.heap.size w2 w' ∧ r = .returned (.tuple #[.slice none 0 0, .int .i64 15]) := hM.mono fun r w' ⟨hb, h⟩ => ⟨hb, h.elim (fun h1 => absurd h1.1 hall) And.right⟩
      have HM := Lib.hid hM2
      clear hM hM2 hall h30 h1000 h3000
      go_wp2_with fail
      refine HM.out.mono ?_
      rintro r w3 ⟨hb3, rfl⟩
      have HB3 := Lib.hid (HB2.out.trans (hb3.mono HB2.out.size))
      clear hb3
      go_wp2_with fail
      go_ret
      exact ⟨rfl, HB3.out⟩
end Go.Proofs.Ytaomneenflkpeaa
