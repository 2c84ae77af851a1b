/-
  The walk over the reference's Deliver.
-/
import Derived.Test.YtiffoafjgcjgoaaRtD
namespace Go.Proofs.Ytiffoafjgcjgoaa
open Go.RowKit

set_option maxRecDepth 100000 in
set_option maxHeartbeats 4000000 in
theorem rdeliver_no (w : World) (S : Nat → Prop) (rb : Nat) (N : PNet) (h : Rt w S rb N) (f t p : Int) (hm : cI N.L f t = 0) :
    Calls Try.prog 18 #[.pointer (some ⟨rb, 0, none⟩), .int .i64 f, .int .i64 t, .int .i64 p] w fun e w' => e = .returned (.tuple #[.agg #[.int .i64 0, .int .i64 0, .slice none 0 0], .bool false]) ∧ Below w.heap.size w w' := by
  obtain ⟨X, hX⟩ : ∃ X, w.alloc (.cells #[.int .i64 0, .int .i64 0, .slice none 0 0] 41) = X := ⟨_, rfl⟩
  have hXb : X.heap[w.heap.size]? = some (.cells #[.int .i64 0, .int .i64 0, .slice none 0 0] 41 (0, 0)) := by rw [← hX]; exact heap_alloc_new w _
  have hbX : Below w.heap.size w X := by rw [← hX]; exact (Below.refl _ _).alloc (Nat.le_refl _) _
  have HM := Lib.hid (rmeant_none X S rb N (h.after hbX) f t p hm)
  have HB := Lib.hid hbX
  have HXb := Lib.hid hXb
  have d0 := cell_of (i := 0) hXb rfl
  have d1 := cell_of (i := 1) hXb rfl
  have d2 := cell_of (i := 2) hXb rfl
  have z0 := frozen_of (i := 0) hXb
  have z1 := frozen_of (i := 1) hXb
  have z2 := frozen_of (i := 2) hXb
  clear h hbX hXb hm
  go_enter Try.func18, Try.ntmps18
  go_wp2_with fail
  refine HM.out.mono ?_
  rintro e w1 ⟨rfl, rfl⟩
  go_wp2_with fail
  (try simp only [Exit.inBlock, Exit.then])
  have hfz := set3_fr X w.heap.size (.int .i64 0) (.int .i64 0) (.slice none 0 0) (fun k => w.heap.size ≤ k) (Nat.le_refl _)
  exact bodyPost_ret (v := .tuple #[.agg #[.int .i64 0, .int .i64 0, .slice none 0 0], .bool false]) (results_msg rfl _ _ w.heap.size _ _ rfl rfl (set3_heap HXb.out _ _ _) rfl) rfl ⟨rfl, HB.out.trans (hfz.below HB.out.size fun k hk hle => by omega)⟩

set_option maxRecDepth 100000 in
set_option maxHeartbeats 4000000 in
theorem rdeliver_yes (w : World) (S : Nat → Prop) (rb : Nat) (N : PNet) (h : Rt w S rb N) (f t : Nat) (p : Int) (hp : -9223372036854775808 ≤ p ∧ p ≤ 9223372036854775807) (hz : 0 < cnt N.L f t) (s : List UInt8) (hs : (bag N.L f t)[pick p (cnt N.L f t)]? = some s) :
    Calls Try.prog 18 #[.pointer (some ⟨rb, 0, none⟩), .int .i64 (f : Int), .int .i64 (t : Int), .int .i64 p] w fun e w' => ∃ v, e = .returned (.tuple #[.agg #[.int .i64 (f : Int), .int .i64 (t : Int), v], .bool true]) ∧
      Rd w' w'.heap.size v s ∧ Rt w' (More S w.heap.size) rb { N with L := rem f t (pick p (cnt N.L f t)) N.L } ∧ Fr S w w' := by
  have h0 : Rt w (fun k => S k ∧ k < w.heap.size) rb N := h.mono fun k hk hs => ⟨hs, hk⟩
  have hta := pos_at _ _ _ _ _ hs
  have HWf := Lib.hid (rem_wf h.wf (pick_lt (p := p) hz))
  have HRem := Lib.hid (rem_eq f t (pick p (cnt N.L f t)) N.L)
  obtain ⟨X, hX⟩ : ∃ X, w.alloc (.cells #[.int .i64 0, .int .i64 0, .slice none 0 0] 41) = X := ⟨_, rfl⟩
  have hXb : X.heap[w.heap.size]? = some (.cells #[.int .i64 0, .int .i64 0, .slice none 0 0] 41 (0, 0)) := by rw [← hX]; exact heap_alloc_new w _
  have hXs : X.heap.size = w.heap.size + 1 := by rw [← hX]; simp
  have hbX : Below w.heap.size w X := by rw [← hX]; exact (Below.refl _ _).alloc (Nat.le_refl _) _
  have hRX := h0.after hbX
  have HM := Lib.hid (rmeant_some X _ rb N hRX f t p hp hz)
  obtain ⟨k, hk⟩ : ∃ k, pos f t (pick p (cnt N.L f t)) N.L = k := ⟨_, rfl⟩
  rw [hk] at HM hta HRem
  have hkl := (List.getElem?_eq_some_iff.1 hta).1
  obtain ⟨mv, us, h1⟩ := hRX
  have hlen := h1.wf.len
  have hrl := h1.lt
  have hrb0 : rb < w.heap.size := h0.lt
  have c3 := h1.c3
  have z3 := h1.fz 3
  obtain ⟨v1, hs1, hr1⟩ := h1.sm.take (k := k) (by omega)
  obtain ⟨v2, hs2, hr2⟩ := h1.sm.drop (k := k + 1) (by omega)
  have hr2' : ∀ W, (Instr.slice 51 mv (some (.int .i64 ((k : Int) + 1))) none none).run Try.prog W = .ok v2 W := by
    intro W
    have := hr2 W
    rw [show (((k + 1 : Nat)) : Int) = (k : Int) + 1 by omega] at this
    exact this
  have hwr : IntKind.i64.wrap ((k : Int) + 1) = (k : Int) + 1 := by rw [IntKind.wrap_i64]; omega
  have hr2w : ∀ W, (Instr.slice 51 mv (some (.int .i64 (IntKind.i64.wrap ((k : Int) + 1)))) none none).run Try.prog W = .ok v2 W := by rw [hwr]; exact hr2'
  obtain ⟨q, cap, hmv, hq1, hq2, hat⟩ := h1.form
  obtain ⟨g, u, rfl, d0, d1, d2, hu, hin⟩ := hat k _ hta
  obtain ⟨pu, cu, rfl, hcu1, hcu2⟩ := hin.1.shape
  simp only at d0 d1 d2 hin hcu1 hcu2
  obtain ⟨Y, hY⟩ : ∃ Y, X.alloc (.cells #[.int .i64 (f : Int), .int .i64 (t : Int), .slice pu s.length cu] 41) = Y := ⟨_, rfl⟩
  have hYb : Y.heap[X.heap.size]? = some (.cells #[.int .i64 (f : Int), .int .i64 (t : Int), .slice pu s.length cu] 41 (0, 0)) := by rw [← hY]; exact heap_alloc_new X _
  have hbY : Below X.heap.size X Y := by rw [← hY]; exact (Below.refl _ _).alloc (Nat.le_refl _) _
  have hYs : Y.heap.size = X.heap.size + 1 := by rw [← hY]; simp
  have hY0 := (hbY.block w.heap.size (by omega)).trans hXb
  obtain ⟨W1, hW1⟩ : ∃ W1, Y.drew.alloc (.cells #[] 41) = W1 := ⟨_, rfl⟩
  have hB0 : Below Y.heap.size Y W1 := by rw [← hW1]; exact (below_drew (Below.refl _ _)).alloc (Nat.le_refl _) _
  have hO0 : OwnM W1 Y.heap.size (.slice (some ⟨Y.heap.size, 0, none⟩) 0 0) [] [] := by
    rw [← hW1]
    exact OwnM.lit Y.drew Y.heap.size (Nat.le_refl _)
  have hRY := h1.after hbY
  have e3 := hRY.c3
  have e3a : (Y.alloc (.cells #[] 41)).cell? ⟨rb, 3, none⟩ = some mv := (World.cell?_of_block (alloc_old hRY.lt _)).trans e3
  have e3b : W1.cell? ⟨rb, 3, none⟩ = some mv := (hRY.after hB0).c3
  have HO0 := Lib.hid hO0
  have HS1a : Hid (Sm W1 v1 (N.L.take k) (us.take k)) := Lib.hid ((hs1.keep hbY).keep hB0)
  have HB0 := Lib.hid hB0
  have HRY := Lib.hid hRY
  have one1 : Hid (∀ u ∈ us.take k, u.oneCell' = true) := Lib.hid fun u hu => h1.ones u (List.mem_of_mem_take hu)
  have one2 : Hid (∀ u ∈ us.drop (k + 1), u.oneCell' = true) := Lib.hid fun u hu => h1.ones u (List.mem_of_mem_drop hu)
  have len1 : Hid (([] : List Msg).length + (N.L.take k).length ≤ 1099511627776) := Lib.hid (by simp; omega)
  have len2 : Hid (([] ++ N.L.take k).length + (N.L.drop (k + 1)).length ≤ 1099511627776) := Lib.hid (by simp; omega)
  have HS2 := Lib.hid (hs2.keep hbY)
  have HIn := Lib.hid hin
  have HBX := Lib.hid hbX
  have HBY := Lib.hid hbY
  have HXs := Lib.hid hXs
  have HYs := Lib.hid hYs
  have HYb := Lib.hid hYb
  have HY0 := Lib.hid hY0
  have HLen := Lib.hid h1.len
  have z3Y := hRY.fz 3
  have HlY : Hid (rb < Y.heap.size) := Lib.hid hRY.lt
  have HKl := Lib.hid hkl
  clear h h0 hs hta hXb hXs hbX h1 hk hs1 hs2 hr2 hwr hat hu hin hYb hbY hYs hY0 hB0 hO0 hRY hz
  subst hmv
  go_enter Try.func18, Try.ntmps18
  go_wp2_with fail
  refine HM.out.mono ?_
  rintro e w1 ⟨rfl, rfl⟩
  go_wp2_with fail
  go_region_law (first
    | (refine step_append_M rfl (.tmp 28) (.tmp 34) rfl Y.heap.size (v := .slice (some ⟨Y.heap.size, 0, none⟩) 0 0) (u := v1) (by simp [Act.eval, Act.put]) (by simp [Act.eval, Act.put]) HO0.out HS1a.out one1.out len1.out HB0.out.size ?_; intro y1 w1 ho1 hg1 ha1; have hb1 : Below Y.heap.size Y w1 := HB0.out.grown (by exact hg1) HB0.out.size (fun j hj => by cases hj; exact Nat.le_refl _); have c1b := (below_cells hb1 rb 3 HlY.out).trans e3; have z1b : w1.frozen? ⟨rb, 3, none⟩ = false := (hb1.frozen (p := ⟨rb, 3, none⟩) HlY.out).trans z3Y; have HO1 := Lib.hid ho1; have HB1 := Lib.hid hb1; clear ho1 hg1 ha1 hb1)
    | (refine step_append_M rfl (.tmp 35) (.tmp 42) rfl Y.heap.size (v := y1) (u := v2) (by simp [Act.eval, Act.put]) (by simp [Act.eval, Act.put]) HO1.out (HS2.out.keep HB1.out) one2.out len2.out HB1.out.size ?_; intro y2 w2 ho2 hg2 ha2; have hb2 : Below Y.heap.size Y w2 := HB1.out.grown (by exact hg2) HB1.out.size HO1.out.low; have c1c := (below_cells hb2 rb 3 HlY.out).trans e3; have z1c : w2.frozen? ⟨rb, 3, none⟩ = false := (hb2.frozen (p := ⟨rb, 3, none⟩) HlY.out).trans z3Y; have HO2 := Lib.hid ho2; obtain ⟨p3, cap3, e9, _, _⟩ := ho2.shape; obtain ⟨n3, hn3⟩ : ∃ n, ([] ++ N.L.take k ++ N.L.drop (k + 1)).length = n := ⟨_, rfl⟩; rw [hn3] at e9; subst e9; have HB2 := Lib.hid hb2; clear ho2 hg2 ha2 hb2 hn3))
  all_goals
    obtain ⟨V, hV⟩ : ∃ V, w2.setCell ⟨rb, 3, none⟩ (.slice p3 n3 cap3) = V := ⟨_, rfl⟩
    have ho2 := HO2.out
    rw [List.nil_append, List.nil_append, ← HRem.out] at ho2
    obtain ⟨r1, r2⟩ := HRY.out.newRow HB2.out ho2 (fun j m u h1 h2 => by
      rw [HRem.out] at h1
      exact pair_cut HLen.out (by omega) (by omega) h1 h2) HWf.out
    rw [hV] at r1 r2 ⊢
    have hYX : w.heap.size < X.heap.size ∧ X.heap.size < Y.heap.size := by have := HXs.out; have := HYs.out; omega
    have hb1 := r2.keep HYb.out (fun hs => by have := hs.2; omega)
    have hb0 := r2.keep HY0.out (fun hs => by have := hs.2; omega)
    have t0 := cell_of (i := 0) hb1 rfl
    have t1 := cell_of (i := 1) hb1 rfl
    have t2 := cell_of (i := 2) hb1 rfl
    have s0 := cell_of (i := 0) hb0 rfl
    have s1 := cell_of (i := 1) hb0 rfl
    have s2 := cell_of (i := 2) hb0 rfl
    have y0 := frozen_of (i := 0) hb0
    have y1 := frozen_of (i := 1) hb0
    have y2 := frozen_of (i := 2) hb0
    have hInV : InS (fun k => S k ∧ k < w.heap.size) V (.slice pu s.length cu) s := HIn.out.keep (fun j hj => by
      obtain ⟨cur, hc⟩ := HIn.out.1.heap hj
      have hcY := (HBY.out.block j (block_lt hc)).trans hc
      rw [← hV]
      exact ((setCell_other (kind_ne hcY HRY.out.blk (by decide)) _).trans (HB2.out.block j (block_lt hcY))).trans (HBY.out.block j (block_lt hc))) (fun _ _ hs => hs)
    have HR1 := Lib.hid r1
    have HR2 := Lib.hid r2
    have HB0' := Lib.hid hb0
    have HInV := Lib.hid hInV
    clear r1 r2 hb1 hb0 hInV ho2 hV hYX
    go_wp2_with fail
    (try simp only [Exit.inBlock, Exit.then])
    have hF := set3_fr V w.heap.size (.int .i64 (f : Int)) (.int .i64 (t : Int)) (.slice pu s.length cu) (fun k => k = w.heap.size) rfl
    have hYw : w.heap.size ≤ Y.heap.size := by have := HXs.out; have := HYs.out; omega
    refine bodyPost_ret (v := .tuple #[.agg #[.int .i64 (f : Int), .int .i64 (t : Int), .slice pu s.length cu], .bool true]) (results_msg rfl _ _ w.heap.size _ _ rfl rfl (set3_heap HB0'.out _ _ _) rfl) rfl ⟨_, rfl, ?_, ?_, ?_⟩
    · refine (HInV.out.keep (fun j hj => ?_) (fun _ _ hs => hs)).rd
      obtain ⟨cur, hc⟩ := HInV.out.1.heap hj
      exact hF.block j (block_lt hc) (fun e => by have := (HInV.out.2.2 j hj).2; omega)
    · refine Rt.step ⟨_, _, HR1.out⟩ hF (fun j _ hs e => ?_) (fun j _ hs => hs.elim (fun h => .inl h.1) (fun hle => .inr (Nat.le_trans hYw hle)))
      rcases hs with hs | hs
      · have := hs.2
        omega
      · have := HXs.out
        have := HYs.out
        omega
    · have h2 : Fr S w V := ((Fr.of_new HBX.out S).then (Fr.of_new HBY.out S)).then (HR2.out.mono fun k _ hs => hs.1)
      refine ⟨hF.os.trans h2.os, hF.tape.trans h2.tape, hF.output.trans h2.output, Nat.le_trans h2.size hF.size, fun j hj hn => ?_⟩
      exact (hF.block j (Nat.lt_of_lt_of_le hj h2.size) (fun e => by omega)).trans (h2.block j hj hn)

theorem rdeliver_any (w : World) (S : Nat → Prop) (rb : Nat) (N : PNet) (h : Rt w S rb N) (f t p : Int) (hp : -9223372036854775808 ≤ p ∧ p ≤ 9223372036854775807) :
    Calls Try.prog 18 #[.pointer (some ⟨rb, 0, none⟩), .int .i64 f, .int .i64 t, .int .i64 p] w fun e w' => ∃ v, e = .returned (.tuple #[.agg #[.int .i64 (dF N f t), .int .i64 (dT N f t), v], .bool (has N f t)]) ∧
      Rd w' w'.heap.size v (dX N f t p) ∧ Rt w' (More S w.heap.size) rb (take1 N f t p) ∧ Fr S w w' := by
  rcases has_cases N f t with ⟨hl, hh⟩ | ⟨f', t', rfl, rfl, hf, ht, hz, hh⟩ | ⟨f', t', rfl, rfl, hf, ht, hz, hh⟩
  · have e1 : dF N f t = 0 := by simp [dF, hh]
    have e2 : dT N f t = 0 := by simp [dT, hh]
    have e3 : dX N f t p = [] := by simp [dX, hh]
    refine (rdeliver_no w S rb N h f t p (cI_none h.wf hl)).mono ?_
    rintro e w' ⟨rfl, hb⟩
    rw [hh, take1_no hh, e1, e2, e3]
    exact ⟨_, rfl, Rd.none_ _ _, (h.after hb).weak _, Fr.of_new hb S⟩
  · have e1 : dF N f' t' = 0 := by simp [dF, hh]
    have e2 : dT N f' t' = 0 := by simp [dT, hh]
    have e3 : dX N f' t' p = [] := by simp [dX, hh]
    refine (rdeliver_no w S rb N h f' t' p (by rw [cI_nat]; exact hz)).mono ?_
    rintro e w' ⟨rfl, hb⟩
    rw [hh, take1_no hh, e1, e2, e3]
    exact ⟨_, rfl, Rd.none_ _ _, (h.after hb).weak _, Fr.of_new hb S⟩
  · have e1 : dF N f' t' = f' := by simp [dF, hh]
    have e2 : dT N f' t' = t' := by simp [dT, hh]
    have e3 : dX N f' t' p = text N f' t' p := by simp [dX, hh]
    refine (rdeliver_yes w S rb N h f' t' p hp hz _ (text_at hh p)).mono ?_
    rintro e w' ⟨v, rfl, h1, h2, h3⟩
    rw [hh, take1_yes hh, e1, e2, e3]
    exact ⟨v, rfl, h1, h2, h3⟩
end Go.Proofs.Ytiffoafjgcjgoaa
