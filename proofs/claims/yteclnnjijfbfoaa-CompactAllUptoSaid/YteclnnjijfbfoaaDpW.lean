/-
  The walk over glacierlaw9.CompactAll.
-/
import Derived.Test.YteclnnjijfbfoaaGDb
import Derived.Test.YteclnnjijfbfoaaGCb
namespace Go.Proofs.Yteclnnjijfbfoaa
open Go.RowKit

set_option maxRecDepth 100000 in
set_option maxHeartbeats 40000000 in
theorem all_any (w : World) (v : Value) (ls : List (List Ent)) (z b t : Int) (keep more : Nat) (h : Els w (fun k => k < w.heap.size) v ls) (hf : ∀ l ∈ ls, ∀ x ∈ l, FitE x) (hl : ∀ l ∈ ls, l.length ≤ 1048576) (hk : keep < 18446744073709551616) (hm : more < 18446744073709551616) :
    Calls Try.prog 4 #[v, .agg #[.int .i64 z, .int .i64 b, .int .i64 t], .int .u64 (keep : Int), .int .u64 (more : Int)] w fun x w' => x = .returned (.bool true) ∧ Below w.heap.size w w' := by
  obtain ⟨p0, cap0, rfl, hlc, hl47, hcm, _⟩ := h.form
  have HE := Lib.hid h
  have HF := Lib.hid hf
  have HL := Lib.hid hl
  have HKm := Lib.hid (And.intro hk hm)
  have hz0 := heap_alloc_new w (.cells #[.int .i64 z, .int .i64 b, .int .i64 t] 40)
  obtain ⟨X0, hX0⟩ : ∃ X, w.alloc (.cells #[.int .i64 z, .int .i64 b, .int .i64 t] 40) = X := ⟨_, rfl⟩
  have hbX0 : Below w.heap.size w X0 := by rw [← hX0]; exact belowA _ _
  rw [hX0] at hz0
  have HX0 := Lib.hid (And.intro hbX0 hz0)
  have HK := Lib.hid (known9 X0)
  clear h hf hl hk hm hz0 hbX0
  go_enter Try.func4, Try.ntmps4
  go_wp2_with fail
  refine HK.out.mono ?_
  rintro x w1 ⟨rfl, hb1⟩
  have hs1 := (hb1.block _ (block_lt HX0.out.2)).trans HX0.out.2
  have s0 := cell_of (i := 0) hs1 rfl
  have s1 := cell_of (i := 1) hs1 rfl
  have s2 := cell_of (i := 2) hs1 rfl
  have HB1 := Lib.hid (And.intro (HX0.out.1.trans (hb1.mono HX0.out.1.size)) hs1)
  clear hb1 hs1 HK hX0
  by_cases hbig : 12 < ls.length
  · have d1 : decide ((12 : Int) < (ls.length : Int)) = true := decide_eq_true (by omega)
    have d1n : decide (12 < ls.length) = true := decide_eq_true hbig
    clear hbig
    go_wp2_with fail
    go_ret
    exact ⟨rfl, HB1.out.1⟩
  · have d1 : decide ((12 : Int) < (ls.length : Int)) = false := decide_eq_false (by omega)
    have d1n : decide (12 < ls.length) = false := decide_eq_false hbig
    have HCk := Lib.hid (check_any w1 z b t)
    obtain ⟨ok, hok⟩ : ∃ o, okS z b t = o := ⟨_, rfl⟩
    rw [hok] at HCk
    cases ok
    · go_wp2_with fail
      refine HCk.out.mono ?_
      rintro x w2 ⟨rfl, hb2⟩
      go_wp2_with fail
      go_ret
      exact ⟨rfl, HB1.out.1.trans (hb2.mono HB1.out.1.size)⟩
    · have HOk := Lib.hid hok
      have hokp := okS_iff.1 hok
      obtain ⟨bn, rfl⟩ : ∃ n : Nat, b = (n : Int) := ⟨b.toNat, by omega⟩
      clear hok
      go_wp2_with fail
      refine HCk.out.mono ?_
      rintro x w2 ⟨rfl, hb2⟩
      have hB2 := HB1.out.1.trans (hb2.mono HB1.out.1.size)
      have hs2 := (hb2.block _ (block_lt HB1.out.2)).trans HB1.out.2
      clear hb2 HCk s0 s1 s2
      obtain ⟨X1, hX1⟩ : ∃ X, w2.alloc (.cells #[.slice none 0 0, .int .u64 0, .int .i64 0, .int .i64 0] 44) = X := ⟨_, rfl⟩
      have hbX1 : Below w2.heap.size w2 X1 := by rw [← hX1]; exact belowA _ _
      have hv1 : X1.heap[w2.heap.size]? = some (.cells #[.slice none 0 0, .int .u64 0, .int .i64 0, .int .i64 0] 44 (0, 0)) := by rw [← hX1]; exact heap_alloc_new _ _
      have f0 := frozen_of (i := 0) hv1
      have f1 := frozen_of (i := 1) hv1
      have f2 := frozen_of (i := 2) hv1
      have f3 := frozen_of (i := 3) hv1
      have u0 := cell_of (i := 0) hv1 rfl
      have u1 := cell_of (i := 1) hv1 rfl
      have u2 := cell_of (i := 2) hv1 rfl
      have u3 := cell_of (i := 3) hv1 rfl
      obtain ⟨Y1, hY1⟩ : ∃ X, set4 X1 w2.heap.size (.slice none 0 0) (.int .u64 0) (.int .i64 0) (.int .i64 0) = X := ⟨_, rfl⟩
      have hfY := set4_fr X1 w2.heap.size (.slice none 0 0) (.int .u64 0) (.int .i64 0) (.int .i64 0) (fun k => k = w2.heap.size) rfl
      have hvY : Y1.heap[w2.heap.size]? = some (.cells #[.slice none 0 0, .int .u64 0, .int .i64 0, .int .i64 0] 44 (0, 0)) := by rw [← hY1]; exact set4_heap hv1 _ _ _ _
      rw [hY1] at hfY
      have hbY : Below w2.heap.size w2 Y1 := hbX1.trans (hfY.below hbX1.size (fun k hk e => by omega))
      unfold set4 at hY1
      obtain ⟨wm, hwm⟩ : ∃ X, Y1.alloc (.map #[] 0) = X := ⟨_, rfl⟩
      have hbm : Below Y1.heap.size Y1 wm := by rw [← hwm]; exact belowA _ _
      have hmb : wm.heap[Y1.heap.size]? = some (.map #[] 0) := by rw [← hwm]; exact heap_alloc_new _ _
      have hLw : LwN w w2.heap.size Y1.heap.size z (bn : Int) t none 0 [] [] wm := by
        have h1 : w2.heap.size < Y1.heap.size := block_lt hvY
        have h2 : w.heap.size < w2.heap.size := block_lt hs2
        refine ⟨(hbm.block _ h1).trans hvY, (hbm.block _ (by omega)).trans ((hbY.block _ h2).trans hs2), hmb, fun q hq => (by cases hq), World.ownsRow_nil _ _ _ _, hB2.trans ((hbY.mono hB2.size).trans (hbm.mono (by omega))), h2, by omega⟩
      have HLw := Lib.hid hLw
      have hmm := @run_makeMap Try.prog
      clear hB2 hs2 hbX1 hv1 hbm hmb hLw hfY hvY hbY
      go_wp2_with fail
      clear hmm f0 f1 f2 f3 u0 u1 u2 u3
      generalize hvb : w2.heap.size = vb at *
      generalize hmbe : Y1.heap.size = mb at *
      clear hvb hmbe hwm hX1 hY1
      go_loopw [11, 12] (fun tv iv wr => ∃ (k tot : Nat) (p : Option Addr) (c : Nat) (ts : List Tab) (m : List Fe), k ≤ ls.length ∧ iv = .int .i64 (k : Int) ∧ tv = .int .i64 (tot : Int) ∧ tot ≤ 150 ∧ Hid (IniI m ts k tot ∧ LwN w vb mb z (bn : Int) t p c ts m wr)) (fun _ iv _ => ls.length - (intOf iv).toNat)
      case atStart => exact ⟨0, 0, none, 0, [], [], by omega, rfl, rfl, by omega, Lib.hid ⟨IniI.zero, HLw.out⟩⟩
      case round =>
        obtain ⟨k, tot, p, c, ts, m, hk, rfl, rfl, htot, HI⟩ := hrel
        generalize wr = wz at *
        by_cases hlt : k < ls.length
        · have d2 : decide ((k : Int) < (ls.length : Int)) = true := decide_eq_true (by omega)
          have d2n : decide (k < ls.length) = true := decide_eq_true hlt
          obtain ⟨b1, off1, q1, c1, rfl, hbl, e0, hen⟩ := HE.out.at_ (List.getElem?_eq_getElem hlt)
          have hll := HL.out _ (List.getElem_mem hlt)
          have hfit := HF.out _ (List.getElem_mem hlt)
          have e0z := (below_cells HI.out.2.bel b1 _ hbl).trans e0
          have HEn : Hid (∀ V, Below w.heap.size w V → En V (fun k => k < w.heap.size) (.slice q1 ls[k].length c1) ls[k]) := Lib.hid (fun V hV => hen.below hV)
          have HFit := Lib.hid hfit
          have HCe : Hid (∀ V, Below w.heap.size w V → V.cell? ⟨b1, off1 + k, none⟩ = some (.slice q1 ls[k].length c1)) := Lib.hid (fun V hV => (below_cells hV b1 _ hbl).trans e0)
          obtain ⟨l, hlk⟩ : ∃ l, ls[k] = l := ⟨_, rfl⟩
          rw [hlk] at hll e0z HEn HFit HCe
          have hwt : IntKind.i64.wrap ((tot : Int) + (l.length : Int)) = ((tot + l.length : Nat) : Int) := by rw [IntWalk.i64_in _ (by omega)]; omega
          clear hlk hen hfit e0 hbl
          obtain ⟨fw, hfw⟩ : ∃ x, fewE l 60 = x := ⟨_, rfl⟩
          obtain ⟨rt, hrt⟩ : ∃ x, rightE l = x := ⟨_, rfl⟩
          have HFw := Lib.hid (l5_few wz _ _ l (HEn.out wz HI.out.2.bel) HFit.out hll 60)
          rw [hfw] at HFw
          have HRt : Hid (∀ V, Below w.heap.size w V → Calls Try.prog 7 #[.slice q1 l.length c1] V fun e w' => e = .returned (.bool rt) ∧ Below V.heap.size V w') := Lib.hid (fun V hV => by
            have h := r6_right V _ _ l (HEn.out V hV)
            rw [hrt] at h
            exact h)
          have HFR := Lib.hid (And.intro hfw hrt)
          clear hfw hrt
          go_wp2_with fail
          refine HFw.out.mono ?_
          rintro x w3' ⟨rfl, n3, rfl⟩
          obtain ⟨w3, hw3⟩ : ∃ x, wz.drewN n3 = x := ⟨_, rfl⟩
          have HI3 : Hid (IniI m ts k tot ∧ LwN w vb mb z (bn : Int) t p c ts m w3) := Lib.hid ⟨HI.out.1, by rw [← hw3]; exact HI.out.2.after (below_drewN (Below.refl _ _) _)⟩
          rw [hw3]
          clear hw3 HFw HI e0z
          have e0z := HCe.out w3 HI3.out.2.bel
          cases fw
          · go_wp2_with fail
            go_ret
            exact ⟨rfl, HI3.out.2.bel⟩
          · go_wp2_with fail
            refine (HRt.out w3 HI3.out.2.bel).mono ?_
            rintro x w4 ⟨rfl, hb4⟩
            have HI4 := Lib.hid (And.intro HI3.out.1 (HI3.out.2.after hb4))
            clear hb4 HI3 HRt e0z
            have e0z := HCe.out w4 HI4.out.2.bel
            cases rt
            · go_wp2_with fail
              go_ret
              exact ⟨rfl, HI4.out.2.bel⟩
            · by_cases hbt : 150 < tot + l.length
              · have d3 : decide ((150 : Int) < ((tot + l.length : Nat) : Int)) = true := decide_eq_true (by omega)
                have d3n : decide (150 < tot + l.length) = true := decide_eq_true hbt
                have d3i : decide ((150 : Int) < (tot : Int) + (l.length : Int)) = true := decide_eq_true (by omega)
                clear hbt
                go_wp2_with fail
                go_ret
                exact ⟨rfl, HI4.out.2.bel⟩
              · have d3 : decide ((150 : Int) < ((tot + l.length : Nat) : Int)) = false := decide_eq_false (by omega)
                have d3n : decide (150 < tot + l.length) = false := decide_eq_false hbt
                have d3i : decide ((150 : Int) < (tot : Int) + (l.length : Int)) = false := decide_eq_false (by omega)
                have HBt : Hid (tot + l.length ≤ 150) := Lib.hid (by omega)
                clear hbt
                by_cases hl0 : l.length = 0
                · have d4 : ((l.length : Int) == 0) = true := by rw [hl0]; rfl
                  have HL0 := Lib.hid hl0
                  clear hl0
                  go_wp2_with fail
                  go_roundw
                  case rel => exact ⟨k + 1, tot + l.length, p, c, ts, m, by omega, by go_num, rfl, HBt.out, Lib.hid ⟨by rw [HL0.out]; exact HI4.out.1.skip, HI4.out.2⟩⟩
                  case measure => simp [intOf]; omega
                · have d4 : ((l.length : Int) == 0) = false := by rw [beq_eq_false_iff_ne]; omega
                  have hlne : l ≠ [] := fun e => hl0 (by rw [e]; rfl)
                  have hl1 : 0 < l.length := by omega
                  obtain ⟨hfe, hrr⟩ := HFR.out
                  have hfe2 : l.length ≤ 60 ∧ bulkE l ≤ 131072 := by
                    unfold fewE at hfe
                    rw [Bool.and_eq_true, decide_eq_true_eq, decide_eq_true_eq] at hfe
                    omega
                  have hsrt := (rightE_iff.1 hrr).2
                  have hwe : wE l ≤ 132032 := by rw [wE_bulk]; omega
                  have HPl := Lib.hid (And.intro hrr (And.intro hlne hfe2))
                  have hk12 : k ≤ 12 := by omega
                  obtain ⟨w5, hrun, hL5, _, _⟩ := HI4.out.2.put (k : Int) l (.slice q1 l.length c1) (fun q hq e => by have := HI4.out.1.keys q hq; omega) ((HEn.out w4 HI4.out.2.bel).mono fun j _ hj => ⟨by have := HI4.out.2.nm; omega, by have := HI4.out.2.nv; omega⟩)
                  have HI5 := Lib.hid (And.intro HI4.out.1 hL5)
                  have hn1 := HI4.out.1.nd
                  have htl : ts.length ≤ 150 := by
                    have h1 : smT (fun _ => 1) ts ≤ szT (fun _ => 1) (FmM m) ts := sm_le fun t ht => by
                      rw [← len_sw]
                      exact List.length_pos_iff.2 (HI4.out.1.good t ht).ne
                    rw [sm_ones] at h1
                    have := HI4.out.1.cnt
                    omega
                  have HTb : Hid (∀ V, Below w5.heap.size w5 V → Calls Try.prog 14 #[.int .i64 (k : Int), .int .i64 0, .slice q1 l.length c1] V fun x w' => x = .returned (.agg #[.int .i64 (k : Int), .int .i64 0, .string ⟨(hdY l).toArray⟩, .string ⟨(laY l).toArray⟩, .int .i64 (wE l : Int)]) ∧ Below V.heap.size V w') := Lib.hid (fun V hV => by
                    have h := ltable_any V _ _ l (k : Int) 0 (HEn.out V (HI5.out.2.bel.trans (hV.mono HI5.out.2.bel.size))) HFit.out hl1 hll (by omega)
                    rw [← hdY_at hl1, ← laY_at hl1] at h
                    exact h)
                  have HAp : Hid (∀ V, Below w5.heap.size w5 V → Calls Try.prog 13 #[.agg #[.slice p ts.length c, .int .u64 0, .int .i64 0, .int .i64 0], .slice (some ⟨V.heap.size + 1, 0, none⟩) 1 1] ((V.alloc (.cells #[.int .i64 (k : Int), .int .i64 0, .string ⟨(hdY l).toArray⟩, .string ⟨(laY l).toArray⟩, .int .i64 (wE l : Int)] 49)).alloc (.cells #[.slice (some ⟨V.heap.size, 0, none⟩) 1 1, .slice none 0 0, .int .u64 0, .int .i64 0, .int .i64 0] 53)) fun r w' => ∃ (L : List Tab) (q : Option Addr) (c' : Nat), L.Perm (ts ++ [⟨(k : Int), 0, hdY l, laY l, (wE l : Int)⟩]) ∧
                      r = .returned (.tuple #[.agg #[.slice q L.length c', .int .u64 0, .int .i64 0, .int .i64 0], .int .i64 0]) ∧ w'.ownsRow w.heap.size 49 5 (.slice q L.length c') L.length (cellsTs L) ∧ Below V.heap.size V w') := Lib.hid (fun V hV => by
                    have hbA : Below V.heap.size V (V.alloc (.cells #[.int .i64 (k : Int), .int .i64 0, .string ⟨(hdY l).toArray⟩, .string ⟨(laY l).toArray⟩, .int .i64 (wE l : Int)] 49)) := belowA _ _
                    have hbE : Below V.heap.size V ((V.alloc (.cells #[.int .i64 (k : Int), .int .i64 0, .string ⟨(hdY l).toArray⟩, .string ⟨(laY l).toArray⟩, .int .i64 (wE l : Int)] 49)).alloc (.cells #[.slice (some ⟨V.heap.size, 0, none⟩) 1 1, .slice none 0 0, .int .u64 0, .int .i64 0, .int .i64 0] 53)) := hbA.alloc hbA.size _
                    have hwV := HI5.out.2.bel.trans (hV.mono HI5.out.2.bel.size)
                    have he := heap_alloc_new (V.alloc (.cells #[.int .i64 (k : Int), .int .i64 0, .string ⟨(hdY l).toArray⟩, .string ⟨(laY l).toArray⟩, .int .i64 (wE l : Int)] 49)) (.cells #[.slice (some ⟨V.heap.size, 0, none⟩) 1 1, .slice none 0 0, .int .u64 0, .int .i64 0, .int .i64 0] 53)
                    rw [show (V.alloc (.cells #[.int .i64 (k : Int), .int .i64 0, .string ⟨(hdY l).toArray⟩, .string ⟨(laY l).toArray⟩, .int .i64 (wE l : Int)] 49)).heap.size = V.heap.size + 1 by simp] at he
                    have hc1 : Cl (V.alloc (.cells #[.int .i64 (k : Int), .int .i64 0, .string ⟨(hdY l).toArray⟩, .string ⟨(laY l).toArray⟩, .int .i64 (wE l : Int)] 49)) (fun _ => True) (.slice (some ⟨V.heap.size, 0, none⟩) 1 1) 1 (cellsTs [⟨(k : Int), 0, hdY l, laY l, (wE l : Int)⟩]) := Cl.new V (fun _ => True) 1 (cellsTs [⟨(k : Int), 0, hdY l, laY l, (wE l : Int)⟩]) _ _ rfl (by omega) trivial
                    have h := apply_any ((V.alloc (.cells #[.int .i64 (k : Int), .int .i64 0, .string ⟨(hdY l).toArray⟩, .string ⟨(laY l).toArray⟩, .int .i64 (wE l : Int)] 49)).alloc (.cells #[.slice (some ⟨V.heap.size, 0, none⟩) 1 1, .slice none 0 0, .int .u64 0, .int .i64 0, .int .i64 0] 53)) _ _ (fun _ => True) (.slice p ts.length c) (.slice (some ⟨V.heap.size, 0, none⟩) 1 1) (.slice none 0 0) (V.heap.size + 1) ts [] [⟨(k : Int), 0, hdY l, laY l, (wE l : Int)⟩] he
                      (((HI5.out.2.tsm (by omega)).below hV).below hbE) (hc1.below ((Below.refl _ _).alloc (Nat.le_refl _) _)) (Cl.nil _ _) hn1 (fun t h => by cases h) List.nodup_nil (by simp; omega) (by simp)
                      (fun x hx => by
                        obtain rfl := List.mem_singleton.1 hx
                        exact ⟨by show (0 : Int) ≤ (k : Int); omega, by show (k : Int) ≤ 1099511627776; omega, Int.le_refl _, by show (0 : Int) ≤ 6; omega, hd_la hsrt hlne, by show (0 : Int) ≤ (wE l : Int); omega, by show (wE l : Int) ≤ 1099511627776; omega⟩)
                      (fun x hx t ht e => by
                        obtain rfl := List.mem_singleton.1 hx
                        have h1 := (HI5.out.1.good t ht).fn
                        have h2 : t.file = (k : Int) := e
                        omega) (by simp [filesT])
                      (fun L hL => PrtT.zero fun t ht => by
                        rw [hL.mem_iff, rest_nil] at ht
                        rcases List.mem_append.1 ht with h1 | h1
                        · exact HI5.out.1.l0 t h1
                        · rw [List.mem_singleton.1 h1])
                    rw [rest_nil] at h
                    refine h.mono fun r w' ⟨L, q, c', h1, h2, h3, h4⟩ => ⟨L, q, c', h1, h2, row_base h3 (Nat.le_trans hwV.size hbE.size), hbE.trans (h4.mono hbE.size)⟩)
                  clear hlne hl1 hfe hrr hfe2 hsrt hwe hn1 htl hL5 d1 d1n hbig hokp
                  go_upto_region 16 with (fail)
                  have hold : ∀ (Y : World) (o : Obj) (b off : Nat) (v : Value), b < Y.heap.size → Y.cell? ⟨b, off, none⟩ = some v → (Y.alloc o).cell? ⟨b, off, none⟩ = some v := fun Y o b off v hb hc => (World.cell?_of_block (alloc_old hb o)).trans hc
                  have HHo := Lib.hid hold
                  have e0w := HCe.out w5 HI5.out.2.bel
                  have v0 := cell_of (i := 0) HI5.out.2.vx rfl
                  have v1 := cell_of (i := 1) HI5.out.2.vx rfl
                  have v2 := cell_of (i := 2) HI5.out.2.vx rfl
                  have v3 := cell_of (i := 3) HI5.out.2.vx rfl
                  clear hold
                  go_region_with (first
                    | (go_at_call 14
                       refine (HTb.out w5.drew (below_drew (Below.refl _ _))).mono ?_
                       rintro r w6 ⟨rfl, hb6⟩
                       have hB6 : Below w5.heap.size w5 w6 := (below_drew (Below.refl _ _) : Below w5.heap.size w5 w5.drew).trans hb6
                       have hM6 := HI5.out.2.after hB6
                       have hvl := block_lt hM6.vx
                       have x0 := cell_of (i := 0) hM6.vx rfl
                       have x1 := cell_of (i := 1) hM6.vx rfl
                       have x2 := cell_of (i := 2) hM6.vx rfl
                       have x3 := cell_of (i := 3) hM6.vx rfl
                       have y0 := HHo.out w6 (.cells #[.int .i64 (k : Int), .int .i64 0, .string ⟨(hdY l).toArray⟩, .string ⟨(laY l).toArray⟩, .int .i64 (wE l : Int)] 49) vb 0 _ hvl x0
                       have y1 := HHo.out w6 (.cells #[.int .i64 (k : Int), .int .i64 0, .string ⟨(hdY l).toArray⟩, .string ⟨(laY l).toArray⟩, .int .i64 (wE l : Int)] 49) vb 1 _ hvl x1
                       have y2 := HHo.out w6 (.cells #[.int .i64 (k : Int), .int .i64 0, .string ⟨(hdY l).toArray⟩, .string ⟨(laY l).toArray⟩, .int .i64 (wE l : Int)] 49) vb 2 _ hvl x2
                       have y3 := HHo.out w6 (.cells #[.int .i64 (k : Int), .int .i64 0, .string ⟨(hdY l).toArray⟩, .string ⟨(laY l).toArray⟩, .int .i64 (wE l : Int)] 49) vb 3 _ hvl x3
                       have z0 := HHo.out (w6.alloc (.cells #[.int .i64 (k : Int), .int .i64 0, .string ⟨(hdY l).toArray⟩, .string ⟨(laY l).toArray⟩, .int .i64 (wE l : Int)] 49)) (.cells #[.slice (some ⟨w6.heap.size, 0, none⟩) 1 1, .slice none 0 0, .int .u64 0, .int .i64 0, .int .i64 0] 53) vb 0 _ (by simp; omega) y0
                       have z1 := HHo.out (w6.alloc (.cells #[.int .i64 (k : Int), .int .i64 0, .string ⟨(hdY l).toArray⟩, .string ⟨(laY l).toArray⟩, .int .i64 (wE l : Int)] 49)) (.cells #[.slice (some ⟨w6.heap.size, 0, none⟩) 1 1, .slice none 0 0, .int .u64 0, .int .i64 0, .int .i64 0] 53) vb 1 _ (by simp; omega) y1
                       have z2 := HHo.out (w6.alloc (.cells #[.int .i64 (k : Int), .int .i64 0, .string ⟨(hdY l).toArray⟩, .string ⟨(laY l).toArray⟩, .int .i64 (wE l : Int)] 49)) (.cells #[.slice (some ⟨w6.heap.size, 0, none⟩) 1 1, .slice none 0 0, .int .u64 0, .int .i64 0, .int .i64 0] 53) vb 2 _ (by simp; omega) y2
                       have z3 := HHo.out (w6.alloc (.cells #[.int .i64 (k : Int), .int .i64 0, .string ⟨(hdY l).toArray⟩, .string ⟨(laY l).toArray⟩, .int .i64 (wE l : Int)] 49)) (.cells #[.slice (some ⟨w6.heap.size, 0, none⟩) 1 1, .slice none 0 0, .int .u64 0, .int .i64 0, .int .i64 0] 53) vb 3 _ (by simp; omega) y3
                       have HB6 := Lib.hid hB6
                       clear hb6 hB6 hM6 hvl)
                    | (go_at_call 13
                       refine (HAp.out w6 HB6.out).mono ?_
                       rintro r w7 ⟨L7, q7, c7, hp7, rfl, hrow7, hb7⟩
                       have hM7 := HI5.out.2.after (HB6.out.trans (hb7.mono HB6.out.size))
                       have g0 := frozen_of (i := 0) hM7.vx
                       have g1 := frozen_of (i := 1) hM7.vx
                       have g2 := frozen_of (i := 2) hM7.vx
                       have g3 := frozen_of (i := 3) hM7.vx
                       have o0 := cell_of (i := 0) hM7.vx rfl
                       have o1 := cell_of (i := 1) hM7.vx rfl
                       have o2 := cell_of (i := 2) hM7.vx rfl
                       have o3 := cell_of (i := 3) hM7.vx rfl
                       have HFin := Lib.hid (And.intro hp7 (hM7.setV hrow7).1)
                       clear hp7 hrow7 hb7 hM7))
                  all_goals
                    have HIn := Lib.hid (HI5.out.1.put l (.slice q1 l.length c1) HPl.out.1 HFit.out HPl.out.2.1 HPl.out.2.2.1 HPl.out.2.2.2 HFin.out.1)
                    clear hrun
                    go_wp2_with fail
                    go_roundw
                    case rel => exact ⟨k + 1, tot + l.length, q7, c7, L7, _, by omega, by go_num, rfl, HBt.out, Lib.hid ⟨HIn.out, HFin.out.2⟩⟩
                    case measure => simp [intOf]; omega
        · obtain rfl : k = ls.length := by omega
          have d2 : decide ((ls.length : Int) < (ls.length : Int)) = false := by simp
          have hkk := HKm.out.1
          have hmm := HKm.out.2
          obtain ⟨uw, huw, hu1⟩ : ∃ uw : Nat, IntKind.u64.wrap ((keep : Int) + (more : Int)) = (uw : Int) ∧ uw < 18446744073709551616 := by
            by_cases hov : keep + more < 18446744073709551616
            · exact ⟨keep + more, by rw [IntWalk.u64_in _ (by omega)]; omega, hov⟩
            · exact ⟨_, up_wrap keep more hkk hmm (by omega), by omega⟩
          clear d1 d1n hokp
          go_upto_if 106 with (fail)
          go_cut [13] (fun uv wx => wx = wz ∧ ∃ up : Nat, uv = .int .u64 (up : Int) ∧ keep ≤ up ∧ up < 18446744073709551616)
          case first =>
            by_cases hov : uw < keep
            · have d5 : decide ((uw : Int) < (keep : Int)) = true := decide_eq_true (by omega)
              have d5n : decide (uw < keep) = true := decide_eq_true hov
              go_wp2_with fail
              go_meet
              exact ⟨rfl, keep, rfl, Nat.le_refl _, hkk⟩
            · have d5 : decide ((uw : Int) < (keep : Int)) = false := decide_eq_false (by omega)
              have d5n : decide (uw < keep) = false := decide_eq_false hov
              go_wp2_with fail
              go_meet
              exact ⟨rfl, uw, rfl, by omega, hu1⟩
          case rest =>
            obtain ⟨hwc, up, rfl, hku, hup⟩ := hcut
            subst hwc
            have HUp := Lib.hid (And.intro hku hup)
            have hlp := HI.out.1.lp (by omega) htot up
            obtain ⟨S0, hS0⟩ : ∃ S, seenE (mrgL (entT (FmM m) ts)) up = S := ⟨_, rfl⟩
            rw [hS0] at hlp
            have hse := lseen_any _ _ _ ts mb m up (HI.out.2.tsm (by have := hlp.len; omega)) HI.out.2.mapF (fun t ht => (hlp.good t ht).right) (by have := hlp.len; omega) (by have := hlp.flat; omega)
            rw [hS0] at hse
            have HSe := Lib.hid hse
            have HLp := Lib.hid hlp
            have v0 := cell_of (i := 0) HI.out.2.vx rfl
            have v1 := cell_of (i := 1) HI.out.2.vx rfl
            have v2 := cell_of (i := 2) HI.out.2.vx rfl
            have v3 := cell_of (i := 3) HI.out.2.vx rfl
            clear hS0 hse hlp hku hup hkk hmm huw hu1
            go_wp2_with fail
            refine HSe.out.mono ?_
            rintro x w3 ⟨u0, ok, rfl, hen0, hb3⟩
            obtain ⟨pu, cu, rfl, _⟩ := hen0.form
            have HI3 := Lib.hid (HI.out.2.after hb3)
            have HU0 := Lib.hid (HI3.out.en hen0)
            have HKy := Lib.hid (fun q hq => (HI.out.1.keys q hq).2)
            clear v0 v1 v2 v3 hb3 hen0 HSe HI d2 HLw hlt hk
            cases ok
            · go_wp2_with fail
              go_ret
              exact ⟨rfl, HI3.out.bel⟩
            · go_wp2_with fail
              go_loopw [16, 17] (fun nv iv wr => ∃ (i : Nat) (nx : Int) (p : Option Addr) (c : Nat) (ts : List Tab) (m : List Fe), i ≤ 1050 ∧ iv = .int .i64 (i : Int) ∧ nv = .int .i64 nx ∧ Hid (LpI (FmM m) nx ts up S0 i ∧ (∀ q ∈ m, q.1 < nx) ∧ LwN w vb mb z (bn : Int) t p c ts m wr ∧ En wr (fun k => k ≠ mb ∧ k ≠ vb) (.slice pu S0.length cu) S0)) (fun _ iv _ => 2000 - (intOf iv).toNat)
              case atStart => exact ⟨0, (ls.length : Int), p, c, ts, m, by omega, rfl, rfl, Lib.hid ⟨HLp.out, HKy.out, HI3.out, HU0.out⟩⟩
              case round =>
                clear HLp HI3 HU0 HKy htot
                obtain ⟨i, nx, p, c, ts, m, hi, rfl, rfl, HS⟩ := hrel
                generalize wr = wy at *
                have d5 : decide ((i : Int) < 2000) = true := decide_eq_true (by omega)
                have v0 := cell_of (i := 0) HS.out.2.2.1.vx rfl
                have v1 := cell_of (i := 1) HS.out.2.2.1.vx rfl
                have v2 := cell_of (i := 2) HS.out.2.2.1.vx rfl
                have v3 := cell_of (i := 3) HS.out.2.2.1.vx rfl
                have s0 := cell_of (i := 0) HS.out.2.2.1.sx rfl
                have s1 := cell_of (i := 1) HS.out.2.2.1.sx rfl
                have s2 := cell_of (i := 2) HS.out.2.2.1.sx rfl
                have htl := HS.out.1.len
                have HPk := Lib.hid (pick_any wy p c (FmM m) nx ts up i S0 z t bn HS.out.1 (HS.out.2.2.1.tsm (by omega)) HOk.out)
                go_wp2_with fail
                refine HPk.out.mono ?_
                rintro x w4 ⟨hb4, h4⟩
                have HM4 := Lib.hid (HS.out.2.2.1.after hb4)
                have HE4 := Lib.hid (HS.out.2.2.2.below hb4)
                clear hb4 v0 v1 v2 v3 s0 s1 s2 HPk
                rcases h4 with rfl | ⟨lv, U, ip, ic, bt, hj, rfl, hci⟩
                · obtain ⟨X1, hX1⟩ : ∃ X, w4.alloc (.cells #[.int .i64 0, .slice none 0 0, .bool false] 58) = X := ⟨_, rfl⟩
                  have hbX1 : Below w4.heap.size w4 X1 := by rw [← hX1]; exact belowA _ _
                  have hz1 : X1.heap[w4.heap.size]? = some (.cells #[.int .i64 0, .slice none 0 0, .bool false] 58 (0, 0)) := by rw [← hX1]; exact heap_alloc_new _ _
                  have f0 := frozen_of (i := 0) hz1
                  have f1 := frozen_of (i := 1) hz1
                  have f2 := frozen_of (i := 2) hz1
                  have u0 := cell_of (i := 0) hz1 rfl
                  have u1 := cell_of (i := 1) hz1 rfl
                  have u2 := cell_of (i := 2) hz1 rfl
                  obtain ⟨Y1, hY1⟩ : ∃ X, set3 X1 w4.heap.size (.int .i64 0) (.slice none 0 0) (.bool false) = X := ⟨_, rfl⟩
                  have hfY := set3_fr X1 w4.heap.size (.int .i64 0) (.slice none 0 0) (.bool false) (fun k => k = w4.heap.size) rfl
                  rw [hY1] at hfY
                  have hbY : Below w4.heap.size w4 Y1 := hbX1.trans (hfY.below hbX1.size (fun k hk e => by omega))
                  unfold set3 at hY1
                  have HM5 := Lib.hid (HM4.out.after hbY)
                  have v0 := cell_of (i := 0) HM5.out.vx rfl
                  have v1 := cell_of (i := 1) HM5.out.vx rfl
                  have v2 := cell_of (i := 2) HM5.out.vx rfl
                  have v3 := cell_of (i := 3) HM5.out.vx rfl
                  have HE5 := Lib.hid (HE4.out.below hbY)
                  have hse := lseen_any Y1 _ _ ts mb m up (HM5.out.tsm (by omega)) HM5.out.mapF (fun t ht => (HS.out.1.good t ht).right) (by omega) (by have := HS.out.1.flat; omega)
                  rw [HS.out.1.sn] at hse
                  have HSe := Lib.hid hse
                  clear hse hbX1 hz1 hfY hbY
                  go_wp2_with fail
                  refine HSe.out.mono ?_
                  rintro x w6 ⟨u6, ok6, rfl, hen6, hb6⟩
                  obtain ⟨p6, c6, rfl, _⟩ := hen6.form
                  have hsm := l5_sameRows w6 _ _ _ _ _ _ (HE5.out.below hb6) hen6
                  rw [sameL_iff.2 rfl] at hsm
                  have HSm := Lib.hid hsm
                  have HB6 := Lib.hid (HM5.out.after hb6).bel
                  clear hsm hen6 hb6 HSe v0 v1 v2 v3 f0 f1 f2 u0 u1 u2
                  go_wp2_with fail
                  refine HSm.out.mono ?_
                  rintro x w7 ⟨rfl, hb7⟩
                  go_wp2_with fail
                  go_ret
                  exact ⟨rfl, HB6.out.trans (hb7.mono HB6.out.size)⟩
                · have HJ := Lib.hid hj
                  have hul := job_len HS.out.1 hj
                  obtain ⟨X1, hX1⟩ : ∃ X, w4.alloc (.cells #[.int .i64 0, .slice none 0 0, .bool false] 58) = X := ⟨_, rfl⟩
                  have hbX1 : Below w4.heap.size w4 X1 := by rw [← hX1]; exact belowA _ _
                  have hz1 : X1.heap[w4.heap.size]? = some (.cells #[.int .i64 0, .slice none 0 0, .bool false] 58 (0, 0)) := by rw [← hX1]; exact heap_alloc_new _ _
                  have f0 := frozen_of (i := 0) hz1
                  have f1 := frozen_of (i := 1) hz1
                  have f2 := frozen_of (i := 2) hz1
                  have r0 := cell_of (i := 0) hz1 rfl
                  have r1 := cell_of (i := 1) hz1 rfl
                  have r2 := cell_of (i := 2) hz1 rfl
                  obtain ⟨Y1, hY1⟩ : ∃ X, set3 X1 w4.heap.size (.int .i64 lv) (.slice ip U.length ic) (.bool bt) = X := ⟨_, rfl⟩
                  have hfY := set3_fr X1 w4.heap.size (.int .i64 lv) (.slice ip U.length ic) (.bool bt) (fun k => k = w4.heap.size) rfl
                  have hjY : Y1.heap[w4.heap.size]? = some (.cells #[.int .i64 lv, .slice ip U.length ic, .bool bt] 58 (0, 0)) := by rw [← hY1]; exact set3_heap hz1 _ _ _
                  rw [hY1] at hfY
                  have hbY : Below w4.heap.size w4 Y1 := hbX1.trans (hfY.below hbX1.size (fun k hk e => by omega))
                  unfold set3 at hY1
                  have HM5 := Lib.hid (HM4.out.after hbY)
                  have HE5 := Lib.hid (HE4.out.below hbY)
                  have HC5 := Lib.hid ((hci.below hbY).off HM5.out.blk)
                  have HJY := Lib.hid hjY
                  clear hbX1 hz1 hfY hjY hbY hci hj HM4 HE4
                  go_wp2_with fail
                  generalize hjb : w4.heap.size = jb at *
                  clear hX1 hY1 hjb f0 f1 f2 r0 r1 r2
                  go_loopw [22, 23] (fun sv iv wr => ∃ (k : Nat) (q : Option Addr) (c3 : Nat), k ≤ U.length ∧ iv = .int .i64 (k : Int) ∧ sv = .slice q k c3 ∧ Hid (LsW Y1 (fun k => k ≠ mb) (entT (FmM m) (U.take k)) (.slice q k c3) wr ∧ Below Y1.heap.size Y1 wr)) (fun _ iv _ => U.length - (intOf iv).toNat)
                  case atStart => exact ⟨0, none, 0, by omega, rfl, rfl, Lib.hid ⟨LsW.nil (Below.refl _ _), Below.refl _ _⟩⟩
                  case round =>
                    obtain ⟨k, q, c3, hk3, rfl, rfl, HL3⟩ := hrel
                    generalize wr = wz at *
                    have hjz := (HL3.out.2.block _ (block_lt HJY.out)).trans HJY.out
                    have j1 := cell_of (i := 1) hjz rfl
                    by_cases hk3u : k < U.length
                    · have d6 : decide ((k : Int) < (U.length : Int)) = true := decide_eq_true (by omega)
                      obtain ⟨b3, o3, rfl, hb3, _, hc3⟩ := (HC5.out.below HL3.out.2).at_ (fileV_at U k hk3u)
                      have HSn := Lib.hid (entT_snoc (FmM m) U k hk3u)
                      have hen := HM5.out.mapF.en U[k].file
                      have hlk := (HM5.out.mapF.below HL3.out.2).look U[k].file
                      generalize U[k].file = uf at *
                      obtain ⟨pv, cv, hvv, _, _, _, _⟩ := hen.form
                      rw [hvv] at hlk hen
                      have hln : (entT (FmM m) (U.take k)).length = k := by unfold entT; rw [List.length_map, List.length_take]; omega
                      have hL3 := HL3.out.1
                      generalize entT (FmM m) (U.take k) = E3 at *
                      subst hln
                      obtain ⟨us, hrow, hnw, hone, hsz, hnext⟩ := hL3.snoc hen
                      have HRow := Lib.hid hrow
                      have HNw := Lib.hid hnw
                      have HOn := Lib.hid hone
                      have HSz := Lib.hid hsz
                      have HNx := Lib.hid hnext
                      have HB3 : Hid (Below Y1.heap.size Y1 (wz.alloc (.cells #[.slice pv (FmM m uf).length cv] 26))) := Lib.hid (HL3.out.2.trans ((belowA _ _).mono HL3.out.2.size))
                      have hel : E3.length ≤ 150 := by omega
                      clear hen hvv hL3 hrow hnw hone hsz hnext hjz hb3
                      go_wp2_with (at_builtin
                                   refine slEns.wpList_append rfl (.tmp 148) (.tmp 156) rfl Y1.heap.size (v := .slice q E3.length c3) (u := .slice (some ⟨wz.heap.size, 0, none⟩) 1 1) rfl rfl HRow.out HNw.out rfl HOn.out (by omega) HSz.out ?_
                                   intro y3 w3 ho3 hg3 ha3
                                   have HLn := Lib.hid (HNx.out y3 w3 ho3 hg3)
                                   have HBn := Lib.hid (HB3.out.grown (by exact hg3) HB3.out.size (row_low HRow.out))
                                   obtain ⟨p3, c4, rfl, _, _⟩ := row_shape ho3
                                   clear ho3 hg3 ha3)
                      go_roundw
                      case rel => exact ⟨E3.length + 1, p3, c4, by omega, by go_num, rfl, Lib.hid ⟨by rw [HSn.out]; exact HLn.out, HBn.out⟩⟩
                      case measure => simp [intOf]; omega
                    · obtain rfl : k = U.length := by omega
                      have d6 : decide ((U.length : Int) < (U.length : Int)) = false := by simp
                      rw [List.take_length] at HL3
                      have hEl : (entT (FmM m) U).length = U.length := by unfold entT; rw [List.length_map]
                      have hrun := run_wide wz _ (.slice q U.length c3) (entT (FmM m) U) keep bt t (HL3.out.1.els (by omega))
                        (fun l hl => by obtain ⟨x, hx, rfl⟩ := List.mem_map.1 hl; exact (HS.out.1.good x (HJ.out.inn x hx)).right)
                        (fun l hl => by obtain ⟨x, hx, rfl⟩ := List.mem_map.1 hl; exact (HS.out.1.good x (HJ.out.inn x hx)).fit) (by omega)
                        (fun l hl => by obtain ⟨x, hx, rfl⟩ := List.mem_map.1 hl; have := (HS.out.1.each (HJ.out.inn x hx)).1; omega) (okS_iff.1 HOk.out).2.1
                      have HRun := Lib.hid hrun
                      have HM6 := Lib.hid (HM5.out.after HL3.out.2)
                      have j2 := cell_of (i := 2) hjz rfl
                      have s2 := cell_of (i := 2) HM6.out.sx rfl
                      have HJz := Lib.hid hjz
                      clear hrun hjz
                      go_wp2_with fail
                      refine HRun.out.mono ?_
                      rintro x w5 ⟨ps, pv, cv, rfl, hps, hels, hb5⟩
                      obtain ⟨P, hP⟩ : ∃ P, P = prnE (mrgL (entT (FmM m) U)) keep bt := ⟨_, rfl⟩
                      rw [← hP] at hps
                      have hjp := job_P HS.out.1 HJ.out hP
                      have hpl := hps.len
                      have HM7 := Lib.hid (HM6.out.after hb5)
                      have HE7 := Lib.hid ((HE5.out.below HL3.out.2).below hb5)
                      have HC7 := Lib.hid ((HC5.out.below HL3.out.2).below hb5)
                      have hj7 := (hb5.block _ (block_lt HJz.out)).trans HJz.out
                      have HJ7 := Lib.hid hj7
                      obtain ⟨us, hus, hcl, hens⟩ := hels
                      have HOut := Lib.hid (hcl.off HM7.out.blk)
                      have HOen := Lib.hid (And.intro hus (fun (k : Nat) (l : List Ent) (u : Value) (h1 : ps[k]? = some l) (h2 : us[k]? = some u) => HM7.out.en (hens k l u h1 h2)))
                      have HPs := Lib.hid (And.intro hP (And.intro hps hjp))
                      have hpl2 : ps.length ≤ 150 := by omega
                      have g1 := cell_of (i := 1) hj7 rfl
                      obtain ⟨X2, hX2⟩ : ∃ X, w5.alloc (.cells #[.slice none 0 0, .slice none 0 0, .int .u64 0, .int .i64 0, .int .i64 0] 53) = X := ⟨_, rfl⟩
                      have hbX2 : Below w5.heap.size w5 X2 := by rw [← hX2]; exact belowA _ _
                      have hz2 : X2.heap[w5.heap.size]? = some (.cells #[.slice none 0 0, .slice none 0 0, .int .u64 0, .int .i64 0, .int .i64 0] 53 (0, 0)) := by rw [← hX2]; exact heap_alloc_new _ _
                      have f0 := frozen_of (i := 0) hz2
                      have f1 := frozen_of (i := 1) hz2
                      have f2 := frozen_of (i := 2) hz2
                      have f3 := frozen_of (i := 3) hz2
                      have f4 := frozen_of (i := 4) hz2
                      have r0 := cell_of (i := 0) hz2 rfl
                      have r1 := cell_of (i := 1) hz2 rfl
                      have r2 := cell_of (i := 2) hz2 rfl
                      have r3 := cell_of (i := 3) hz2 rfl
                      have r4 := cell_of (i := 4) hz2 rfl
                      obtain ⟨Y2, hY2⟩ : ∃ X, set5 X2 w5.heap.size (.slice none 0 0) (.slice ip U.length ic) (.int .u64 0) (.int .i64 0) (.int .i64 0) = X := ⟨_, rfl⟩
                      have hfY2 := set5_fr X2 w5.heap.size (.slice none 0 0) (.slice ip U.length ic) (.int .u64 0) (.int .i64 0) (.int .i64 0) (fun k => k = w5.heap.size) rfl
                      have hxY : Y2.heap[w5.heap.size]? = some (.cells #[.slice none 0 0, .slice ip U.length ic, .int .u64 0, .int .i64 0, .int .i64 0] 53 (0, 0)) := by rw [← hY2]; exact set5_heap hz2 _ _ _ _ _
                      rw [hY2] at hfY2
                      have hbY2 : Below w5.heap.size w5 Y2 := hbX2.trans (hfY2.below hbX2.size (fun k hk e => by omega))
                      unfold set5 at hY2
                      have HJ4 : Hid (J4 w5 mb vb w5.heap.size ip U.length ic none 0 [] m Y2) := Lib.hid ⟨Fr.of_new hbY2 _, (hbY2.block _ (Array.getElem?_eq_some_iff.1 HM7.out.blk).1).trans HM7.out.blk, HM7.out.ens, hxY, World.ownsRow_nil _ _ _ _, Nat.le_refl _, (Array.getElem?_eq_some_iff.1 HM7.out.blk).1⟩
                      have HMk0 : Hid (MkI m nx ps 0 m) := Lib.hid (MkI.zero HS.out.2.1)
                      clear hb5 hj7 hus hcl hens hP hps hjp hpl hbX2 hz2 hfY2 hxY hbY2 HRun j1 j2 s2 HM6 HM5 HE5 HC5 HL3 HJY HJz d6 hk3 hk3u
                      go_wp2_with fail
                      generalize hxb : w5.heap.size = xb at *
                      have HXb := Lib.hid hxb
                      clear hX2 hY2 hxb f0 f1 f2 f3 f4 r0 r1 r2 r3 r4 g1
                      go_loopw [16, 27] (fun nv kv wr => ∃ (k : Nat) (mk : List Fe) (pq : Option Addr) (cq : Nat), k ≤ ps.length ∧ kv = .int .i64 (k : Int) ∧ nv = .int .i64 (nx + (k : Int)) ∧ Hid (MkI m nx ps k mk ∧ J4 w5 mb vb xb ip U.length ic pq cq (nwT (lv + 1) nx (ps.take k)) mk wr)) (fun _ kv _ => ps.length - (intOf kv).toNat)
                      case atStart => exact ⟨0, m, none, 0, by omega, rfl, by simp, Lib.hid ⟨HMk0.out, HJ4.out⟩⟩
                      case round =>
                        obtain ⟨k, mk, pq, cq, hk4, rfl, rfl, H4⟩ := hrel
                        generalize wr = wz at *
                        by_cases hk4u : k < ps.length
                        · have d7 : decide ((k : Int) < (ps.length : Int)) = true := decide_eq_true (by omega)
                          have hgk : ps[k]? = some ps[k] := List.getElem?_eq_getElem hk4u
                          obtain ⟨uu, huk⟩ : ∃ u, us[k]? = some u := ⟨_, List.getElem?_eq_getElem (by rw [HOen.out.1]; exact hk4u)⟩
                          have hen := HOen.out.2 k _ _ hgk huk
                          have hps := HPs.out
                          have hpk : ps[k].Sublist P := prt_mem hps.2.1 (List.getElem_mem hk4u)
                          have hl1 : 0 < ps[k].length := List.length_pos_iff.2 (hps.2.1.ne _ (List.getElem_mem hk4u))
                          have hll : ps[k].length ≤ 150 := Nat.le_trans hpk.length_le hps.2.2.1
                          have hlw : wE ps[k] ≤ 2000000 := by
                            have h1 := sw_sub wtE hpk
                            rw [← wE_sw, ← wE_sw] at h1
                            omega
                          have hlf : ∀ x ∈ ps[k], FitE x := fun x hx => by
                            obtain ⟨_, u, hu, hxu⟩ := (step_mem HJ.out hps.1).2.2 x (hpk.subset hx)
                            exact (HS.out.1.good u (HJ.out.inn u hu)).fit x hxu
                          have HSnA : Hid (nwT (lv + 1) nx (ps.take (k + 1)) = nwT (lv + 1) nx (ps.take k) ++ [⟨nx + (k : Int), lv + 1, hdY ps[k], laY ps[k], (wE ps[k] : Int)⟩]) := Lib.hid (by
                            rw [take_snoc ps k _ hgk, nwT_snoc, List.length_take, Nat.min_eq_left (by omega)])
                          have HMkN := Lib.hid (fun u => H4.out.1.put hgk u)
                          have hlv0 := HJ.out.lv0
                          have hlv5 := HJ.out.lv5
                          have hn0 := HS.out.1.n0
                          have hn1 := HS.out.1.n1
                          obtain ⟨pk, ck, hsh, _⟩ := hen.form
                          subst hsh
                          have hAl : (nwT (lv + 1) nx (ps.take k)).length ≤ 150 := by rw [nwT_len, List.length_take]; omega
                          have hJ4 := H4.out.2
                          have hkey := H4.out.1.key
                          generalize nwT (lv + 1) nx (ps.take k) = A4 at *
                          generalize ps[k] = l at *
                          obtain ⟨w8, hrun8, hJ8⟩ := hJ4.put (nx + (k : Int)) l (.slice pk l.length ck) (fun q hq e => by have := hkey q hq; omega) hen
                          have HJ8 := Lib.hid hJ8
                          obtain ⟨bo, oo, rfl, hbo, hbm, hco⟩ := (HOut.out).at_ huk
                          have hcz := (World.cell?_of_block (hJ4.fr.block bo hbo hbm)).trans hco
                          have hjbm : jb ≠ mb := fun e => by
                            have h1 := HM7.out.blk
                            rw [← e, HJ7.out] at h1
                            cases h1
                          have hjb5 := block_lt HJ7.out
                          have HKp : Hid (∀ V, Below w5.heap.size w8 V → (V.cell? ⟨jb, 0, none⟩ = some (.int .i64 lv) ∧ V.cell? ⟨bo, oo + k, none⟩ = some (.slice pk l.length ck))) := Lib.hid (fun V hV =>
                            ⟨(World.cell?_of_block ((hV.block _ hjb5).trans (HJ8.out.fr.block jb hjb5 hjbm))).trans (cell_of (i := 0) HJ7.out rfl), (World.cell?_of_block ((hV.block _ hbo).trans (HJ8.out.fr.block bo hbo hbm))).trans hco⟩)
                          have HTb : Hid (∀ V, Below w8.heap.size w8 V → Calls Try.prog 14 #[.int .i64 (nx + (k : Int)), .int .i64 (lv + 1), .slice pk l.length ck] V fun x w' => x = .returned (.agg #[.int .i64 (nx + (k : Int)), .int .i64 (lv + 1), .string ⟨(hdY l).toArray⟩, .string ⟨(laY l).toArray⟩, .int .i64 (wE l : Int)]) ∧ Below V.heap.size V w') := Lib.hid (fun V hV => by
                            have h := ltable_any V _ _ l (nx + (k : Int)) (lv + 1) ((hen.step HJ8.out.fr fun _ _ hk => hk.1).below hV) hlf hl1 (by omega) (by omega)
                            rw [← hdY_at hl1, ← laY_at hl1] at h
                            exact h)
                          have HOn := Lib.hid (cT_one (⟨nx + (k : Int), lv + 1, hdY l, laY l, (wE l : Int)⟩ : Tab))
                          have hwl : IntKind.i64.wrap (lv + 1) = lv + 1 := IntWalk.i64_in _ (by omega)
                          have hwn : IntKind.i64.wrap (nx + (k : Int) + 1) = nx + (k : Int) + 1 := IntWalk.i64_in _ (by omega)
                          have x0 := cell_of (i := 0) HJ8.out.xx rfl
                          have jj0 := (HKp.out w8 (Below.refl _ _)).1
                          have oo0 := (HKp.out w8 (Below.refl _ _)).2
                          clear hgk huk hen hps hpk hl1 hll hlw hlf hlv0 hlv5 hn0 hn1 hJ4 hkey hJ8 hco hjbm hjb5 hbo hbm H4
                          go_upto_region 44 with (fail)
                          go_cut [] (fun wx => ∃ (p' : Option Addr) (c' : Nat), Hid (J4 w5 mb vb xb ip U.length ic p' c' (A4 ++ [⟨nx + (k : Int), lv + 1, hdY l, laY l, (wE l : Int)⟩]) (mk ++ [(nx + (k : Int), l, .slice pk l.length ck)]) wx))
                          case first =>
                            clear hcz hrun8
                            go_region_law
                              (first
                                | (go_simp
                                   go_at_call 14
                                   refine (HTb.out w8.drew (below_drew (Below.refl _ _))).mono ?_
                                   rintro r w9 ⟨rfl, hb9⟩
                                   have hB9 : Below w8.heap.size w8 w9 := (below_drew (Below.refl _ _) : Below w8.heap.size w8 w8.drew).trans hb9
                                   have hB9a : Below w8.heap.size w8 (w9.alloc (.cells #[.int .i64 (nx + (k : Int)), .int .i64 (lv + 1), .string ⟨(hdY l).toArray⟩, .string ⟨(laY l).toArray⟩, .int .i64 (wE l : Int)] 49)) := hB9.alloc hB9.size _
                                   have hx9 := (hB9.block _ (block_lt HJ8.out.xx)).trans HJ8.out.xx
                                   have x9 := cell_of (i := 0) hx9 rfl
                                   have x9a : (w9.alloc (.cells #[.int .i64 (nx + (k : Int)), .int .i64 (lv + 1), .string ⟨(hdY l).toArray⟩, .string ⟨(laY l).toArray⟩, .int .i64 (wE l : Int)] 49)).cell? ⟨xb, 0, none⟩ = _ := (World.cell?_of_block (alloc_old (block_lt hx9) _)).trans x9
                                   have HX9 := Lib.hid ((hB9a.block _ (block_lt HJ8.out.xx)).trans HJ8.out.xx)
                                   have HRw9 := Lib.hid (row_keep HJ8.out.row fun j hj => hB9a.block j (row_lt HJ8.out.row j hj))
                                   have HCl9 : Hid (Cl (w9.alloc (.cells #[.int .i64 (nx + (k : Int)), .int .i64 (lv + 1), .string ⟨(hdY l).toArray⟩, .string ⟨(laY l).toArray⟩, .int .i64 (wE l : Int)] 49)) (fun _ => True) (.slice (some ⟨w9.heap.size, 0, none⟩) 1 1) 1 (cT ⟨nx + (k : Int), lv + 1, hdY l, laY l, (wE l : Int)⟩)) := Lib.hid (Cl.new w9 (fun _ => True) 1 (cT ⟨nx + (k : Int), lv + 1, hdY l, laY l, (wE l : Int)⟩) _ _ rfl (by omega) trivial)
                                   have HB9 := Lib.hid (hB9.mono HJ8.out.fr.size)
                                   have HB9a := Lib.hid (hB9a.mono HJ8.out.fr.size)
                                   have HSz := Lib.hid (Nat.le_trans HJ8.out.fr.size hB9a.size)
                                   clear hb9 hB9 hB9a hx9)
                                | (refine slTab.step_append rfl (.tmp 186) (.tmp 196) rfl w5.heap.size (v := .slice pq A4.length cq) (u := .slice (some ⟨w9.heap.size, 0, none⟩) 1 1) (by rfl) (by rfl) HRw9.out HCl9.out rfl HOn.out (by omega) HSz.out ?_
                                   intro y1 w10 ho1 hg1 ha1
                                   have hb10 : Below w5.heap.size w8 w10 := HB9a.out.grown (by exact hg1) HSz.out (row_low HRw9.out)
                                   have hx10 := (hg1.block xb (block_lt HX9.out) (fun e => by
                                     obtain ⟨cur, hc⟩ := row_heap HRw9.out e.symm
                                     exact kind_ne hc HX9.out (by decide) rfl)).trans HX9.out
                                   obtain ⟨p10, c10, rfl, _, _⟩ := row_shape ho1
                                   have fz0 := frozen_of (i := 0) hx10
                                   have ux0 := cell_of (i := 0) hx10 rfl
                                   have HFin := Lib.hid (HJ8.out.add hb10 hx10 ho1)
                                   have HB11 := Lib.hid (hb10.trans ((Fr.setCell (fun k => k = xb) w10 (p := ⟨xb, 0, none⟩) rfl (.slice p10 (A4.length + 1) c10)).below (Nat.le_trans HJ8.out.fr.size hb10.size) (fun k hk e => by have := HJ8.out.nx; omega)))
                                   have HB10 := Lib.hid hb10
                                   clear ho1 hg1 ha1 hb10 hx10))
                            all_goals
                              go_wp2_with fail
                              go_meet
                              exact ⟨p10, c10, HFin⟩
                          case rest =>
                            obtain ⟨p', c', HN⟩ := hcut
                            generalize wc = wx at *
                            have HMkF := Lib.hid (HMkN.out (.slice pk l.length ck))
                            clear hrun8 hcz x0 jj0 oo0
                            go_wp2_with fail
                            go_roundw
                            case rel => exact ⟨k + 1, _, p', c', by omega, by go_num, by go_num, Lib.hid ⟨HMkF.out, by rw [HSnA.out]; exact HN.out⟩⟩
                            case measure => simp [intOf]; omega
                        · obtain rfl : k = ps.length := by omega
                          have d7 : decide ((ps.length : Int) < (ps.length : Int)) = false := by simp
                          rw [List.take_length] at H4
                          have hps := HPs.out
                          have hF1 := H4.out.1.old
                          have hF2 : ∀ (j : Nat) (p : List Ent), ps[j]? = some p → FmM mk (nx + (j : Int)) = p := fun j p hp => H4.out.1.new j p (List.getElem?_eq_some_iff.1 hp).1 hp
                          have hn0 := HS.out.1.n0
                          have hn1 := HS.out.1.n1
                          have HTr : Hid (∀ L : List Tab, L.Perm (restT ts U ++ nwT (lv + 1) nx ps) → TreeT (FmM mk) (nx + (ps.length : Int)) L) := Lib.hid (fun L hL => step_tree HJ.out hps.1 hps.2.1 hF1 hF2 hL hn0)
                          have HSt : Hid (∀ L : List Tab, L.Perm (restT ts U ++ nwT (lv + 1) nx ps) → LpI (FmM mk) (nx + (ps.length : Int)) L up S0 (i + 1)) := Lib.hid (fun L hL => HS.out.1.step HJ.out hps.1 hps.2.1 hF1 hF2 hL HUp.out.1)
                          have hnl : (nwT (lv + 1) nx ps).length ≤ 150 := by rw [nwT_len]; omega
                          have hnk : ∀ x ∈ nwT (lv + 1) nx ps, OkAdd x ∧ nx ≤ x.file := fun x hx => by
                            have hg := (HTr.out _ (List.Perm.refl _)).good x (List.mem_append_right _ hx)
                            obtain ⟨j, p', hj, rfl⟩ := (mem_nwT _ _ _ _).1 hx
                            have hpw : wE p' ≤ 2000000 := by
                              have h1 := sw_sub wtE (prt_mem hps.2.1 (List.mem_of_getElem? hj))
                              rw [← wE_sw, ← wE_sw] at h1
                              have := hps.2.2.2
                              omega
                            refine ⟨hg.ok (by omega) ?_, by show nx ≤ nx + (j : Int); omega⟩
                            show wE (FmM mk (nx + (j : Int))) ≤ _
                            rw [hF2 j p' hj]
                            exact hpw
                          have hnd : (filesT (nwT (lv + 1) nx ps)).Nodup := nwT_files _ _ _
                          have HKe := Lib.hid H4.out.1.key
                          have hJ4 := H4.out.2
                          generalize nwT (lv + 1) nx ps = A4 at *
                          have HM8 := Lib.hid (HM7.out.of_fr hJ4.fr hJ4.blk hJ4.ens)
                          have HE8 := Lib.hid (HE7.out.step hJ4.fr fun _ _ hk => hk.1)
                          have hbE : Below wz.heap.size wz (wz.alloc (.cells #[.slice pq A4.length cq, .slice ip U.length ic, .int .u64 0, .int .i64 0, .int .i64 0] 53)) := belowA _ _
                          have hap := apply_any (wz.alloc (.cells #[.slice pq A4.length cq, .slice ip U.length ic, .int .u64 0, .int .i64 0, .int .i64 0] 53)) _ _ _ (.slice p ts.length c) (.slice pq A4.length cq) (.slice ip U.length ic) wz.heap.size ts U A4 (heap_alloc_new _ _) ((HM8.out.tsm (by omega)).below hbE) ((Cl.of_own hJ4.row (by omega) (fun _ _ => trivial) (cellsTs_len _) : TsM wz (fun _ => True) _ A4).below hbE)
                            ((HC7.out.step hJ4.fr fun _ _ hk => hk).below hbE) HS.out.1.nd HJ.out.inn HJ.out.ndU (by omega) (by omega) (fun x hx => (hnk x hx).1) (fun x hx y hy e => by have h1 := (HS.out.1.good y hy).fn; have h2 := (hnk x hx).2; omega) hnd (fun L hL => (HTr.out L hL).prt)
                          have HAp := Lib.hid hap
                          have HBE := Lib.hid hbE
                          have v0 := cell_of (i := 0) HM8.out.vx rfl
                          have v1 := cell_of (i := 1) HM8.out.vx rfl
                          have v2 := cell_of (i := 2) HM8.out.vx rfl
                          have v3 := cell_of (i := 3) HM8.out.vx rfl
                          have x0 := cell_of (i := 0) hJ4.xx rfl
                          have x1 := cell_of (i := 1) hJ4.xx rfl
                          have x2 := cell_of (i := 2) hJ4.xx rfl
                          have x3 := cell_of (i := 3) hJ4.xx rfl
                          have x4 := cell_of (i := 4) hJ4.xx rfl
                          clear hps hF1 hF2 hn0 hn1 hnl hnk hnd hJ4 hap hbE H4 HTr HJ4 HMk0
                          go_wp2_with fail
                          refine HAp.out.mono ?_
                          rintro x w8 ⟨L, q8, c8, hp8, rfl, hrow8, hb8⟩
                          have hB8 : Below wz.heap.size wz w8 := HBE.out.trans (hb8.mono HBE.out.size)
                          have hM9 := HM8.out.after hB8
                          have hr9 := row_base hrow8 (Nat.le_trans HM8.out.bel.size HBE.out.size)
                          have HLn := Lib.hid (HSt.out L hp8)
                          obtain ⟨X3, hX3⟩ : ∃ X, w8.alloc (.cells #[.slice none 0 0, .int .u64 0, .int .i64 0, .int .i64 0] 44) = X := ⟨_, rfl⟩
                          have hbX3 : Below w8.heap.size w8 X3 := by rw [← hX3]; exact belowA _ _
                          have hz3 : X3.heap[w8.heap.size]? = some (.cells #[.slice none 0 0, .int .u64 0, .int .i64 0, .int .i64 0] 44 (0, 0)) := by rw [← hX3]; exact heap_alloc_new _ _
                          have f0 := frozen_of (i := 0) hz3
                          have f1 := frozen_of (i := 1) hz3
                          have f2 := frozen_of (i := 2) hz3
                          have f3 := frozen_of (i := 3) hz3
                          have r0 := cell_of (i := 0) hz3 rfl
                          have r1 := cell_of (i := 1) hz3 rfl
                          have r2 := cell_of (i := 2) hz3 rfl
                          have r3 := cell_of (i := 3) hz3 rfl
                          obtain ⟨Y3, hY3⟩ : ∃ X, set4 X3 w8.heap.size (.slice q8 L.length c8) (.int .u64 0) (.int .i64 0) (.int .i64 0) = X := ⟨_, rfl⟩
                          have hfY3 := set4_fr X3 w8.heap.size (.slice q8 L.length c8) (.int .u64 0) (.int .i64 0) (.int .i64 0) (fun k => k = w8.heap.size) rfl
                          have hyY : Y3.heap[w8.heap.size]? = some (.cells #[.slice q8 L.length c8, .int .u64 0, .int .i64 0, .int .i64 0] 44 (0, 0)) := by rw [← hY3]; exact set4_heap hz3 _ _ _ _
                          rw [hY3] at hfY3
                          have hbY3 : Below w8.heap.size w8 Y3 := hbX3.trans (hfY3.below hbX3.size (fun k hk e => by omega))
                          unfold set4 at hY3
                          have hM10 := hM9.after hbY3
                          have hr10 := row_keep hr9 fun j hj => hbY3.block j (row_lt hr9 j hj)
                          have y0 := cell_of (i := 0) hyY rfl
                          have y1 := cell_of (i := 1) hyY rfl
                          have y2 := cell_of (i := 2) hyY rfl
                          have y3 := cell_of (i := 3) hyY rfl
                          have e0 := frozen_of (i := 0) hM10.vx
                          have e1 := frozen_of (i := 1) hM10.vx
                          have e2 := frozen_of (i := 2) hM10.vx
                          have e3 := frozen_of (i := 3) hM10.vx
                          have g0 := cell_of (i := 0) hM10.vx rfl
                          have g1 := cell_of (i := 1) hM10.vx rfl
                          have g2 := cell_of (i := 2) hM10.vx rfl
                          have g3 := cell_of (i := 3) hM10.vx rfl
                          obtain ⟨hM11, hfr11⟩ := hM10.setV hr10
                          have hE11 := ((HE8.out.below hB8).below hbY3).step hfr11 fun _ _ hk => hk.2
                          obtain ⟨Z3, hZ3⟩ : ∃ X, set4 Y3 vb (.slice q8 L.length c8) (.int .u64 0) (.int .i64 0) (.int .i64 0) = X := ⟨_, rfl⟩
                          rw [hZ3] at hM11 hE11
                          unfold set4 at hZ3
                          have z0 := cell_of (i := 0) hM11.vx rfl
                          have z1 := cell_of (i := 1) hM11.vx rfl
                          have z2 := cell_of (i := 2) hM11.vx rfl
                          have z3 := cell_of (i := 3) hM11.vx rfl
                          have hse := lseen_any Z3 _ _ L mb mk up (hM11.tsm (by have := HLn.out.len; omega)) hM11.mapF (fun x hx => (HLn.out.good x hx).right) (by have := HLn.out.len; omega) (by have := HLn.out.flat; omega)
                          rw [HLn.out.sn] at hse
                          have HSe3 := Lib.hid hse
                          have HM11 := Lib.hid hM11
                          have HE11 := Lib.hid hE11
                          have hmu := HLn.out.mu
                          have hi1 : i + 1 ≤ 1050 := by omega
                          clear hp8 hrow8 hb8 hB8 hM9 hr9 hbX3 hz3 hfY3 hyY hbY3 hM10 hr10 hM11 hfr11 hE11 hse v0 v1 v2 v3 x0 x1 x2 x3 x4 hmu HAp HBE
                          go_wp2_with fail
                          refine HSe3.out.mono ?_
                          rintro x w11 ⟨u11, ok11, rfl, hen11, hb11⟩
                          obtain ⟨p11, c11, rfl, _⟩ := hen11.form
                          have HM12 := Lib.hid (HM11.out.after hb11)
                          have HE12 := Lib.hid (HE11.out.below hb11)
                          have hsm := l5_sameRows w11 _ _ _ _ _ _ HE12.out hen11
                          rw [sameL_iff.2 rfl] at hsm
                          have HSm := Lib.hid hsm
                          clear hsm hen11 hb11 HSe3 hX3 hY3 hZ3 f0 f1 f2 f3 r0 r1 r2 r3 y0 y1 y2 y3 e0 e1 e2 e3 g0 g1 g2 g3 z0 z1 z2 z3
                          go_wp2_with fail
                          refine HSm.out.mono ?_
                          rintro x w12 ⟨rfl, hb12⟩
                          have HM13 := Lib.hid (HM12.out.after hb12)
                          have HE13 := Lib.hid (HE12.out.below hb12)
                          clear hb12 HSm
                          go_wp2_with fail
                          go_roundw
                          case rel => exact ⟨i + 1, nx + (ps.length : Int), q8, c8, L, mk, hi1, by go_num, rfl, Lib.hid ⟨HLn.out, HKe.out, HM13.out, HE13.out⟩⟩
                          case measure => simp [intOf]; omega
end Go.Proofs.Yteclnnjijfbfoaa
