/-
  The walks over step: Deliver, Drop.
-/
import Derived.Test.YtiffoafjgcjgoaaStpN
namespace Go.Proofs.Ytiffoafjgcjgoaa
open Go.RowKit

theorem Own1.after {w w' : World} {base : Nat} {v : Value} {l : List UInt8} (h : Own1 w base v l) (hb : Below w.heap.size w w') : Own1 w' base v l := h.keep fun k hk => hb.block k (h.block hk).2

set_option maxRecDepth 100000 in
set_option maxHeartbeats 4000000 in
theorem step_2 (w : World) (S : Nat → Prop) (nb rb : Nat) (N : PNet) (hp : Pair S w nb rb N N) (tv bv : Value) (x : PAct) (hA : ActC w S tv bv x) (hx : FitA x) (hop : x.op = 2) :
    Calls Try.prog 10 #[.pointer (some ⟨nb, 0, none⟩), .pointer (some ⟨rb, 0, none⟩), actV x tv bv] w fun e w' => e = .returned (.bool true) ∧ Pair (More S w.heap.size) w' nb rb (take1 N x.src x.dst x.pick) (take1 N x.src x.dst x.pick) ∧ Fr S w w' := by
  obtain ⟨⟨p1, c1, rfl, _, _, _⟩, p2, c2, rfl, _, _, _⟩ := hA.form
  unfold actV
  rw [hop]
  have hbx := box_of hp hA #[.int .i64 2, .int .i64 x.src, .int .i64 x.dst, .int .i64 x.pick, .slice p1 x.tos.length c1, .slice p2 x.bytes.length c2]
  obtain ⟨W, hW⟩ : ∃ W, w.alloc (.cells #[.int .i64 2, .int .i64 x.src, .int .i64 x.dst, .int .i64 x.pick, .slice p1 x.tos.length c1, .slice p2 x.bytes.length c2] 36) = W := ⟨_, rfl⟩
  rw [hW] at hbx
  obtain ⟨S1, hd, hS1, hnext⟩ := hbx.pair.firstIn
  have HBx := Lib.hid hbx
  have d0 := cell_of (i := 0) hbx.blk rfl
  have d1 := cell_of (i := 1) hbx.blk rfl
  have d2 := cell_of (i := 2) hbx.blk rfl
  have d3 := cell_of (i := 3) hbx.blk rfl
  have HS1 := Lib.hid hS1
  have HNext := Lib.hid hnext
  have HP := Lib.hid hx.pick
  have htl : Hid ((dX N x.src x.dst x.pick).length ≤ 1048576) := Lib.hid (by
    have hw := hd.wf
    unfold dX
    split
    · rename_i hh
      exact hw.text hh _
    · simp)
  have HC1 := Lib.hid (deliver_any W S1 nb N hd x.src x.dst x.pick hx.pick)
  clear hp hA hx hbx hd hS1 hnext hop
  obtain ⟨qf, hqf⟩ : ∃ q, dF N x.src x.dst = q := ⟨_, rfl⟩
  obtain ⟨qt, hqt⟩ : ∃ q, dT N x.src x.dst = q := ⟨_, rfl⟩
  obtain ⟨qx, hqx⟩ : ∃ q, dX N x.src x.dst x.pick = q := ⟨_, rfl⟩
  rw [hqf, hqt, hqx] at HC1
  rw [hqx] at htl
  have HQf := Lib.hid hqf
  have HQt := Lib.hid hqt
  have HQx := Lib.hid hqx
  clear hqf hqt hqx
  go_enter Try.func10, Try.ntmps10
  go_wp2_with fail
  refine HC1.out.mono ?_
  rintro e w1 ⟨v1, rfl, ho1, hd1, hf1⟩
  have hl := ho1.shape
  obtain ⟨u1, k1, rfl, _, _⟩ := hl
  obtain ⟨X, hX⟩ : ∃ X, w1.alloc (.cells #[.int .i64 qf, .int .i64 qt, .slice u1 qx.length k1] 41) = X := ⟨_, rfl⟩
  have hbX : Below w1.heap.size w1 X := by rw [← hX]; exact (Below.refl _ _).alloc (Nat.le_refl _) _
  have hXb : X.heap[w1.heap.size]? = some (.cells #[.int .i64 qf, .int .i64 qt, .slice u1 qx.length k1] 41 (0, 0)) := by rw [← hX]; exact heap_alloc_new w1 _
  have hF1 : Fr (fun k => S k ∧ k < w.heap.size) W w1 := hf1.mono fun k _ hk => HS1.out k hk
  have hFX : Fr (fun k => S k ∧ k < w.heap.size) W X := hF1.then (Fr.of_new hbX _)
  have hk1 := HBx.out.keep (hFX.mono fun k _ hk => .inl hk)
  have f1 := cell_of (i := 1) hk1 rfl
  have f2 := cell_of (i := 2) hk1 rfl
  have f3 := cell_of (i := 3) hk1 rfl
  have hP1 := (HNext.out w1 _ hd1 hf1).below hbX
  obtain ⟨S2, hr, hS2, hnext2⟩ := hP1.second
  have HC2 := Lib.hid (rdeliver_any X S2 rb N hr x.src x.dst x.pick HP.out)
  rw [HQf.out, HQt.out, HQx.out] at HC2
  have HO1 := Lib.hid (ho1.after hbX)
  have HXb := Lib.hid hXb
  have HS2 := Lib.hid hS2
  have HNext2 := Lib.hid hnext2
  have HFX := Lib.hid hFX
  have HW1 : Hid (w.heap.size < w1.heap.size) := Lib.hid (Nat.lt_of_lt_of_le HBx.out.size hF1.size)
  clear ho1 hd1 hf1 hbX hXb hF1 hFX hk1 hP1 hr hS2 hnext2 d0 d1 d2 d3
  go_wp2_with fail
  refine HC2.out.mono ?_
  rintro e w2 ⟨v2, rfl, hr2, hd2, hf2⟩
  have hq2 := hr2.form
  obtain ⟨u2, k2, rfl, _, _, _, _⟩ := hq2
  obtain ⟨Y, hY⟩ : ∃ Y, w2.alloc (.cells #[.int .i64 qf, .int .i64 qt, .slice u2 qx.length k2] 41) = Y := ⟨_, rfl⟩
  have hbY : Below w2.heap.size w2 Y := by rw [← hY]; exact (Below.refl _ _).alloc (Nat.le_refl _) _
  have hYb : Y.heap[w2.heap.size]? = some (.cells #[.int .i64 qf, .int .i64 qt, .slice u2 qx.length k2] 41 (0, 0)) := by rw [← hY]; exact heap_alloc_new w2 _
  have ha2 := hf2.keep HXb.out (fun hs => by have := (HS2.out _ hs).2; have := HW1.out; omega)
  have haY := (hbY.block _ (block_lt ha2)).trans ha2
  have a0 := cell_of (i := 0) haY rfl
  have a1 := cell_of (i := 1) haY rfl
  have a2 := cell_of (i := 2) haY rfl
  have b0 := cell_of (i := 0) hYb rfl
  have b1 := cell_of (i := 1) hYb rfl
  have b2 := cell_of (i := 2) hYb rfl
  have hrd1 : Rd Y Y.heap.size (.slice u1 qx.length k1) qx := by
    have h1 : Own1 w2 W.heap.size (.slice u1 qx.length k1) qx := HO1.out.keep fun k hk => hf2.block k (HO1.out.block hk).2 (fun hs => by have := (HS2.out _ hs).2; have := (HO1.out.block hk).1; have := HBx.out.size; omega)
    exact (h1.after hbY).rd (by have := htl.out; omega)
  have hrd2 : Rd Y Y.heap.size (.slice u2 qx.length k2) qx := (hr2.below hbY).more hbY.size
  have HSm := Lib.hid (same_any Y qf qt _ _ qx hrd1 hrd2)
  have HP2 := Lib.hid ((HNext2.out w2 _ hd2 hf2).below hbY)
  have HF2 : Hid (Fr (fun k => (S k ∧ k < w.heap.size) ∨ W.heap.size ≤ k) W Y) := Lib.hid (((HFX.out.then (hf2.mono fun k _ hk => HS2.out k hk)).then (Fr.of_new hbY _)).mono fun k _ hk => .inl hk)
  have HXs : Hid (W.heap.size ≤ X.heap.size) := Lib.hid HFX.out.size
  generalize has N x.src x.dst = r at *
  clear hr2 hd2 hf2 hbY hYb ha2 haY hrd1 hrd2 f1 f2 f3
  have HE : Hid (∀ w3, Below Y.heap.size Y w3 → Pair (More S w.heap.size) w3 nb rb (take1 N x.src x.dst x.pick) (take1 N x.src x.dst x.pick) ∧ Fr S w w3) := Lib.hid fun w3 hb3 =>
    HBx.out.done (HP2.out.below hb3) (fun k hk => by
      have h1 := HBx.out.size
      have h2 := HXs.out
      rcases hk with hk | hk
      · exact .inl hk
      · exact .inr (by omega)) (HF2.out.then (Fr.of_new hb3 _))
  rcases r with _ | _
  all_goals
    go_wp2_with fail
    refine HSm.out.mono ?_
    rintro e w3 ⟨rfl, hb3⟩
    have HB3 := Lib.hid hb3
    clear hb3
    go_wp2_with fail
    go_ret
    exact ⟨rfl, HE.out _ HB3.out⟩

set_option maxRecDepth 100000 in
set_option maxHeartbeats 4000000 in
theorem step_3 (w : World) (S : Nat → Prop) (nb rb : Nat) (N : PNet) (hp : Pair S w nb rb N N) (tv bv : Value) (x : PAct) (hA : ActC w S tv bv x) (hx : FitA x) (hop : x.op = 3) :
    Calls Try.prog 10 #[.pointer (some ⟨nb, 0, none⟩), .pointer (some ⟨rb, 0, none⟩), actV x tv bv] w fun e w' => e = .returned (.bool true) ∧ Pair (More S w.heap.size) w' nb rb (take1 N x.src x.dst x.pick) (take1 N x.src x.dst x.pick) ∧ Fr S w w' := by
  obtain ⟨⟨p1, c1, rfl, _, _, _⟩, p2, c2, rfl, _, _, _⟩ := hA.form
  unfold actV
  rw [hop]
  have hbx := box_of hp hA #[.int .i64 3, .int .i64 x.src, .int .i64 x.dst, .int .i64 x.pick, .slice p1 x.tos.length c1, .slice p2 x.bytes.length c2]
  obtain ⟨W, hW⟩ : ∃ W, w.alloc (.cells #[.int .i64 3, .int .i64 x.src, .int .i64 x.dst, .int .i64 x.pick, .slice p1 x.tos.length c1, .slice p2 x.bytes.length c2] 36) = W := ⟨_, rfl⟩
  rw [hW] at hbx
  obtain ⟨S2, hd, hS2, hnext⟩ := hbx.pair.second
  have HBx := Lib.hid hbx
  have d0 := cell_of (i := 0) hbx.blk rfl
  have d1 := cell_of (i := 1) hbx.blk rfl
  have d2 := cell_of (i := 2) hbx.blk rfl
  have d3 := cell_of (i := 3) hbx.blk rfl
  have HS2 := Lib.hid hS2
  have HNext := Lib.hid hnext
  have HP := Lib.hid hx.pick
  have HC1 := Lib.hid (rdeliver_any W S2 rb N hd x.src x.dst x.pick hx.pick)
  clear hp hA hx hbx hd hS2 hnext hop
  generalize dF N x.src x.dst = qf at *
  generalize dT N x.src x.dst = qt at *
  generalize dX N x.src x.dst x.pick = qx at *
  go_enter Try.func10, Try.ntmps10
  go_wp2_with fail
  refine HC1.out.mono ?_
  rintro e w1 ⟨v1, rfl, ho1, hd1, hf1⟩
  obtain ⟨u1, k1, rfl, _, _, _, _⟩ := ho1.form
  obtain ⟨X, hX⟩ : ∃ X, w1.alloc (.cells #[.int .i64 qf, .int .i64 qt, .slice u1 qx.length k1] 41) = X := ⟨_, rfl⟩
  have hbX : Below w1.heap.size w1 X := by rw [← hX]; exact (Below.refl _ _).alloc (Nat.le_refl _) _
  have hF1 : Fr (fun k => S k ∧ k < w.heap.size) W w1 := hf1.mono fun k _ hk => HS2.out k hk
  have hFX : Fr (fun k => S k ∧ k < w.heap.size) W X := hF1.then (Fr.of_new hbX _)
  have hk1 := HBx.out.keep (hFX.mono fun k _ hk => .inl hk)
  have f1 := cell_of (i := 1) hk1 rfl
  have f2 := cell_of (i := 2) hk1 rfl
  have f3 := cell_of (i := 3) hk1 rfl
  have hP1 := (HNext.out w1 _ hd1 hf1).below hbX
  obtain ⟨S1, hr, hS1, hnext2⟩ := hP1.firstIn
  have HC2 := Lib.hid (drop_any X S1 nb N hr x.src x.dst x.pick HP.out)
  have HS1 := Lib.hid hS1
  have HNext2 := Lib.hid hnext2
  have HFX := Lib.hid hFX
  clear ho1 hd1 hf1 hbX hF1 hFX hk1 hP1 hr hS1 hnext2 d0 d1 d2 d3
  generalize has N x.src x.dst = r at *
  rcases r with _ | _
  all_goals
    go_wp2_with fail
    refine HC2.out.mono ?_
    rintro e w2 ⟨rfl, hd2, hf2⟩
    have HE := Lib.hid (HBx.out.done (HNext2.out w2 _ hd2 hf2) (fun k hk => by
      have h1 := HBx.out.size
      rcases hk with hk | hk
      · exact .inl hk
      · exact .inr (by omega)) ((HFX.out.trans (hf2.mono fun k _ hk => (HS1.out k hk).imp id fun hle => by have := HFX.out.size; omega)).mono fun k _ hk => .inl hk))
    clear hd2 hf2
    go_wp2_with fail
    go_ret
    exact ⟨rfl, HE.out⟩
end Go.Proofs.Ytiffoafjgcjgoaa
