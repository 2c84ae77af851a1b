/-
  The walks over step: Double, Clear, Tick, no act; all acts in one contract.
-/
import Derived.Test.YtiffoafjgcjgoaaStpM
namespace Go.Proofs.Ytiffoafjgcjgoaa
open Go.RowKit

set_option maxRecDepth 100000 in
set_option maxHeartbeats 4000000 in
theorem step_4 (w : World) (S : Nat → Prop) (nb rb : Nat) (N : PNet) (hp : Pair S w nb rb N N) (tv bv : Value) (x : PAct) (hA : ActC w S tv bv x) (hx : FitA x) (hop : x.op = 4) :
    Calls Try.prog 10 #[.pointer (some ⟨nb, 0, none⟩), .pointer (some ⟨rb, 0, none⟩), actV x tv bv] w fun e w' => e = .returned (.bool true) ∧ Pair (More S w.heap.size) w' nb rb (dbl N x.src x.dst x.pick) (dbl N x.src x.dst x.pick) ∧ Fr S w w' := by
  obtain ⟨⟨p1, c1, rfl, _, _, _⟩, p2, c2, rfl, _, _, _⟩ := hA.form
  unfold actV
  rw [hop]
  have hbx := box_of hp hA #[.int .i64 4, .int .i64 x.src, .int .i64 x.dst, .int .i64 x.pick, .slice p1 x.tos.length c1, .slice p2 x.bytes.length c2]
  obtain ⟨W, hW⟩ : ∃ W, w.alloc (.cells #[.int .i64 4, .int .i64 x.src, .int .i64 x.dst, .int .i64 x.pick, .slice p1 x.tos.length c1, .slice p2 x.bytes.length c2] 36) = W := ⟨_, rfl⟩
  rw [hW] at hbx
  obtain ⟨S1, hd, hS1, hnext⟩ := hbx.pair.first
  have HBx := Lib.hid hbx
  have d0 := cell_of (i := 0) hbx.blk rfl
  have d1 := cell_of (i := 1) hbx.blk rfl
  have d2 := cell_of (i := 2) hbx.blk rfl
  have d3 := cell_of (i := 3) hbx.blk rfl
  have HS1 := Lib.hid hS1
  have HNext := Lib.hid hnext
  have HP := Lib.hid hx.pick
  have HC1 := Lib.hid (double_any (W.drewN 1) S1 nb N (hd.drewN 1) x.src x.dst x.pick hx.pick)
  clear hp hA hx hbx hd hS1 hnext hop
  go_enter Try.func10, Try.ntmps10
  go_wp2_with fail
  go_region_held3 (fun w' => w'.cell? ⟨w.heap.size, 1, none⟩ = some (.int .i64 x.src) ∧ w'.cell? ⟨w.heap.size, 2, none⟩ = some (.int .i64 x.dst) ∧ w'.cell? ⟨w.heap.size, 3, none⟩ = some (.int .i64 x.pick))
    (first
      | exact ⟨d1, d2, d3⟩
      | exact ⟨f1, f2, f3⟩
      | exact ⟨g1, g2, g3⟩)
    (first
      | (go_at_call 15; refine HC1.out.mono ?_; rintro e w1 ⟨rfl, hd1, hf1⟩; have hf1 : Fr S1 W w1 := ⟨hf1.os, hf1.tape, hf1.output, hf1.size, hf1.block⟩; have hk1 := HBx.out.keep (hf1.mono fun k _ hk => .inl (HS1.out k hk)); have f1 := cell_of (i := 1) hk1 rfl; have f2 := cell_of (i := 2) hk1 rfl; have f3 := cell_of (i := 3) hk1 rfl; have HP1 := Lib.hid (HNext.out w1 _ hd1 hf1); have HF1 : Hid (Fr (fun k => S k ∧ k < w.heap.size) W w1) := Lib.hid (hf1.mono fun k _ hk => HS1.out k hk); obtain ⟨S2, hr, hS2, hnext2⟩ := HP1.out.second; have HS2 := Lib.hid hS2; have HNext2 := Lib.hid hnext2; have HC2 := Lib.hid (rdouble_any w1 S2 rb N hr x.src x.dst x.pick HP.out); clear hd1 hf1 hk1 hr hS2 hnext2)
      | (go_at_call 20; refine HC2.out.mono ?_; rintro e w2 ⟨rfl, hd2, hf2⟩; have hf12 : Fr (fun k => (S k ∧ k < w.heap.size) ∨ W.heap.size ≤ k) W w2 := (HF1.out.trans (hf2.mono fun k _ hk => HS2.out k hk)).mono fun k _ hk => .inl hk; have hk2 := HBx.out.keep hf12; have g1 := cell_of (i := 1) hk2 rfl; have g2 := cell_of (i := 2) hk2 rfl; have g3 := cell_of (i := 3) hk2 rfl; have HP2 := Lib.hid (HNext2.out w2 _ hd2 hf2); have HF12 := Lib.hid hf12; clear hd2 hf2 hf12 hk2))
  all_goals
    generalize dbld N x.src x.dst = r at *
    have HE := Lib.hid (HBx.out.done HP2.out (fun k hk => by
      have h1 := HBx.out.size
      have h2 := HF1.out.size
      rcases hk with (hk | hk) | hk
      · exact .inl hk
      · exact .inr (by omega)
      · exact .inr (by omega)) HF12.out)
    rcases r with _ | _
    all_goals
      go_wp2_with fail
      go_ret
      exact ⟨rfl, HE.out⟩

set_option maxRecDepth 100000 in
set_option maxHeartbeats 4000000 in
theorem step_5 (w : World) (S : Nat → Prop) (nb rb : Nat) (N : PNet) (hp : Pair S w nb rb N N) (tv bv : Value) (x : PAct) (hA : ActC w S tv bv x) (hop : x.op = 5) :
    Calls Try.prog 10 #[.pointer (some ⟨nb, 0, none⟩), .pointer (some ⟨rb, 0, none⟩), actV x tv bv] w fun e w' => e = .returned (.bool true) ∧ Pair (More S w.heap.size) w' nb rb (clear_ N x.src) (clear_ N x.src) ∧ Fr S w w' := by
  obtain ⟨⟨p1, c1, rfl, _, _, _⟩, p2, c2, rfl, _, _, _⟩ := hA.form
  unfold actV
  rw [hop]
  have hbx := box_of hp hA #[.int .i64 5, .int .i64 x.src, .int .i64 x.dst, .int .i64 x.pick, .slice p1 x.tos.length c1, .slice p2 x.bytes.length c2]
  obtain ⟨W, hW⟩ : ∃ W, w.alloc (.cells #[.int .i64 5, .int .i64 x.src, .int .i64 x.dst, .int .i64 x.pick, .slice p1 x.tos.length c1, .slice p2 x.bytes.length c2] 36) = W := ⟨_, rfl⟩
  rw [hW] at hbx
  obtain ⟨S1, hd, hS1, hnext⟩ := hbx.pair.firstIn
  have HBx := Lib.hid hbx
  have d0 := cell_of (i := 0) hbx.blk rfl
  have d1 := cell_of (i := 1) hbx.blk rfl
  have HC1 := Lib.hid (clear_any W S1 nb N hd x.src)
  have HS1 := Lib.hid hS1
  have HNext := Lib.hid hnext
  clear hp hA hbx hd hS1 hnext hop
  go_enter Try.func10, Try.ntmps10
  go_wp2_with fail
  refine HC1.out.mono ?_
  rintro e w1 ⟨rfl, hd1, hf1⟩
  have hF1 : Fr (fun k => S k ∧ k < w.heap.size) W w1 := hf1.mono fun k _ hk => HS1.out k hk
  have hk1 := HBx.out.keep (hF1.mono fun k _ hk => .inl hk)
  have f1 := cell_of (i := 1) hk1 rfl
  have hP1 := HNext.out w1 _ hd1 hf1
  obtain ⟨S2, hr, hS2, hnext2⟩ := hP1.second
  have HC2 := Lib.hid (rclear_any w1 S2 rb N hr x.src)
  have HF1 := Lib.hid hF1
  have HS2 := Lib.hid hS2
  have HNext2 := Lib.hid hnext2
  clear hd1 hf1 hF1 hk1 hP1 hr hS2 hnext2
  go_wp2_with fail
  refine HC2.out.mono ?_
  rintro e w2 ⟨rfl, hd2, hf2⟩
  have HE := Lib.hid (HBx.out.done (HNext2.out w2 _ hd2 hf2) (fun k hk => by
    have h1 := HBx.out.size
    have h2 := HF1.out.size
    rcases hk with hk | hk
    · exact .inl hk
    · exact .inr (by omega)) ((HF1.out.then (hf2.mono fun k _ hk => HS2.out k hk)).mono fun k _ hk => .inl hk))
  clear hd2 hf2
  go_wp2_with fail
  go_ret
  exact ⟨rfl, HE.out⟩

set_option maxRecDepth 100000 in
set_option maxHeartbeats 4000000 in
theorem step_6 (w : World) (S : Nat → Prop) (nb rb : Nat) (N : PNet) (hp : Pair S w nb rb N N) (tv bv : Value) (x : PAct) (hA : ActC w S tv bv x) (hn : N.now < 4611686018427387904) (hop : x.op = 6) :
    Calls Try.prog 10 #[.pointer (some ⟨nb, 0, none⟩), .pointer (some ⟨rb, 0, none⟩), actV x tv bv] w fun e w' => e = .returned (.bool true) ∧ Pair (More S w.heap.size) w' nb rb (tick N) (tick N) ∧ Fr S w w' := by
  obtain ⟨⟨p1, c1, rfl, _, _, _⟩, p2, c2, rfl, _, _, _⟩ := hA.form
  unfold actV
  rw [hop]
  have hbx := box_of hp hA #[.int .i64 6, .int .i64 x.src, .int .i64 x.dst, .int .i64 x.pick, .slice p1 x.tos.length c1, .slice p2 x.bytes.length c2]
  obtain ⟨W, hW⟩ : ∃ W, w.alloc (.cells #[.int .i64 6, .int .i64 x.src, .int .i64 x.dst, .int .i64 x.pick, .slice p1 x.tos.length c1, .slice p2 x.bytes.length c2] 36) = W := ⟨_, rfl⟩
  rw [hW] at hbx
  obtain ⟨S2, hd, hS2, hnext⟩ := hbx.pair.secondIn
  have HBx := Lib.hid hbx
  have d0 := cell_of (i := 0) hbx.blk rfl
  obtain ⟨mv, us, hd⟩ := hd
  have c2' := hd.c2
  have z2 := hd.fz 2
  have hrl := hd.lt
  have e : IntKind.i64.wrap ((N.now : Int) + 1) = ((N.now + 1 : Nat) : Int) := by rw [IntWalk.i64_in _ (by omega)]; omega
  obtain ⟨X, hX⟩ : ∃ X, W.setCell ⟨rb, 2, none⟩ (.int .i64 ((N.now + 1 : Nat) : Int)) = X := ⟨_, rfl⟩
  have hFX : Fr S2 W X := by
    rw [← hX]
    exact Fr.setCell S2 W (p := ⟨rb, 2, none⟩) hd.inS _
  have hRX : RtAt X S2 rb (tick N) mv us := by
    rw [← hX]
    exact hd.tick
  have hP1 := hnext X (tick N) ⟨mv, us, hRX⟩ hFX
  obtain ⟨S1, hm, hS1, hnext2⟩ := hP1.firstIn
  have HC1 := Lib.hid (tick_any (X.drewN 1) S1 nb N (hm.drewN 1) hn)
  have e2 : X.cell? ⟨rb, 2, none⟩ = some (.int .i64 ((N.now + 1 : Nat) : Int)) := hRX.c2
  have HS1 := Lib.hid hS1
  have HNext2 := Lib.hid hnext2
  have HFX : Hid (Fr (fun k => S k ∧ k < w.heap.size) W X) := Lib.hid (hFX.mono fun k _ hk => hS2 k hk)
  have HRX : Hid (Rt X (fun k => S k ∧ k < w.heap.size) rb (tick N)) := Lib.hid hP1.two
  have HP1 := Lib.hid hP1
  clear hp hA hbx hd hS2 hnext hop hRX hP1 hm hS1 hnext2 hFX
  go_enter Try.func10, Try.ntmps10
  go_wp2_with fail
  have hX2 : W.setCell ⟨rb, 2, none⟩ (.int .i64 ((N.now : Int) + 1)) = X := by
    rw [← hX]
    congr 2
  rw [hX2]
  go_region_held3 (fun w' => w'.cell? ⟨rb, 2, none⟩ = some (.int .i64 ((N.now + 1 : Nat) : Int)))
    (first
      | exact e2
      | exact f2)
    (first
      | (go_at_call 23; refine HC1.out.mono ?_; rintro e w1 ⟨rfl, hd1, hf1⟩; have hf1 : Fr S1 X w1 := ⟨hf1.os, hf1.tape, hf1.output, hf1.size, hf1.block⟩; have HPt := Lib.hid (HNext2.out w1 _ hd1 hf1); have HF1 := Lib.hid (HFX.out.then (hf1.mono fun k _ hk => HS1.out k hk)); obtain ⟨_, _, hat⟩ := HPt.out.two; have f2 : w1.cell? ⟨rb, 2, none⟩ = some (.int .i64 ((N.now + 1 : Nat) : Int)) := hat.c2; clear hd1 hf1 hat))
  all_goals
    go_wp2_with fail
    go_ret
    obtain ⟨y1, y2⟩ := HBx.out.done HPt.out (fun k hk => .inl hk) (HF1.out.mono fun k _ hk => .inl hk)
    exact ⟨rfl, y1, y2⟩

set_option maxRecDepth 100000 in
set_option maxHeartbeats 4000000 in
theorem step_0 (w : World) (S : Nat → Prop) (nb rb : Nat) (N : PNet) (hp : Pair S w nb rb N N) (tv bv : Value) (x : PAct) (hA : ActC w S tv bv x) (hop : x.op ≠ 1 ∧ x.op ≠ 2 ∧ x.op ≠ 3 ∧ x.op ≠ 4 ∧ x.op ≠ 5 ∧ x.op ≠ 6) :
    Calls Try.prog 10 #[.pointer (some ⟨nb, 0, none⟩), .pointer (some ⟨rb, 0, none⟩), actV x tv bv] w fun e w' => e = .returned (.bool true) ∧ Pair (More S w.heap.size) w' nb rb N N ∧ Fr S w w' := by
  obtain ⟨⟨p1, c1, rfl, _, _, _⟩, p2, c2, rfl, _, _, _⟩ := hA.form
  unfold actV
  have hbx := box_of hp hA #[.int .i64 x.op, .int .i64 x.src, .int .i64 x.dst, .int .i64 x.pick, .slice p1 x.tos.length c1, .slice p2 x.bytes.length c2]
  obtain ⟨W, hW⟩ : ∃ W, w.alloc (.cells #[.int .i64 x.op, .int .i64 x.src, .int .i64 x.dst, .int .i64 x.pick, .slice p1 x.tos.length c1, .slice p2 x.bytes.length c2] 36) = W := ⟨_, rfl⟩
  rw [hW] at hbx
  obtain ⟨o1, o2, o3, o4, o5, o6⟩ := hop
  have q1 : (x.op == 1) = false := by simpa using o1
  have q2 : (x.op == 2) = false := by simpa using o2
  have q3 : (x.op == 3) = false := by simpa using o3
  have q4 : (x.op == 4) = false := by simpa using o4
  have q5 : (x.op == 5) = false := by simpa using o5
  have q6 : (x.op == 6) = false := by simpa using o6
  have d0 := cell_of (i := 0) hbx.blk rfl
  have HE := Lib.hid (hbx.done hbx.pair (fun k hk => .inl hk) (Fr.refl _ _))
  clear hp hA hbx o1 o2 o3 o4 o5 o6
  go_enter Try.func10, Try.ntmps10
  go_wp2_with fail
  go_ret
  exact ⟨rfl, HE.out⟩

theorem step_any (w : World) (S : Nat → Prop) (nb rb : Nat) (N : PNet) (hp : Pair S w nb rb N N) (tv bv : Value) (x : PAct) (hA : ActC w S tv bv x) (hx : FitA x) (hn : N.now < 4611686018427387904) :
    Calls Try.prog 10 #[.pointer (some ⟨nb, 0, none⟩), .pointer (some ⟨rb, 0, none⟩), actV x tv bv] w fun e w' => e = .returned (.bool true) ∧ Pair (More S w.heap.size) w' nb rb (act N x) (act N x) ∧ Fr S w w' := by
  by_cases h1 : x.op = 1
  · have e : act N x = sends x.src x.bytes N x.tos := by simp [act, h1]
    rw [e]
    exact step_1 w S nb rb N hp tv bv x hA hx h1
  · by_cases h2 : x.op = 2
    · have e : act N x = take1 N x.src x.dst x.pick := by simp [act, h2]
      rw [e]
      exact step_2 w S nb rb N hp tv bv x hA hx h2
    · by_cases h3 : x.op = 3
      · have e : act N x = take1 N x.src x.dst x.pick := by simp [act, h3]
        rw [e]
        exact step_3 w S nb rb N hp tv bv x hA hx h3
      · by_cases h4 : x.op = 4
        · have e : act N x = dbl N x.src x.dst x.pick := by simp [act, h4]
          rw [e]
          exact step_4 w S nb rb N hp tv bv x hA hx h4
        · by_cases h5 : x.op = 5
          · have e : act N x = clear_ N x.src := by simp [act, h5]
            rw [e]
            exact step_5 w S nb rb N hp tv bv x hA h5
          · by_cases h6 : x.op = 6
            · have e : act N x = tick N := by simp [act, h6]
              rw [e]
              exact step_6 w S nb rb N hp tv bv x hA hn h6
            · have e : act N x = N := by simp [act, h1, h2, h3, h4, h5, h6]
              rw [e]
              exact step_0 w S nb rb N hp tv bv x hA ⟨h1, h2, h3, h4, h5, h6⟩
end Go.Proofs.Ytiffoafjgcjgoaa
