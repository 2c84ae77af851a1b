/-
  The walk over step: an act on both nets; what both answer is the same.
-/
import Derived.Test.YtiffoafjgcjgoaaActN
namespace Go.Proofs.Ytiffoafjgcjgoaa
open Go.RowKit

section
variable {S T : Nat → Prop} {w w' : World} {nb rb : Nat} {N E : PNet}
/-- A call on the program's net that makes no block of the net's. -/
theorem Pair.firstIn (h : Pair S w nb rb N E) : ∃ S1 : Nat → Prop, Nt w S1 nb N ∧ (∀ k, S1 k → S k) ∧ ∀ w1 N', Nt w1 S1 nb N' → Fr S1 w w1 → Pair S w1 nb rb N' E := by
  obtain ⟨S1, S2, h1, h2, h3, h4⟩ := h
  refine ⟨S1, h1, fun k hk => (h3 k hk).1, fun w1 N' hd hf => ?_⟩
  have h5 : Rt w1 S2 rb E := h2.step hf (fun k _ hk2 hk1 => (h3 k hk1).2 hk2) (fun _ _ hs => hs)
  exact ⟨S1, S2, hd, h5, h3, h4⟩
theorem Pair.secondIn (h : Pair S w nb rb N E) : ∃ S2 : Nat → Prop, Rt w S2 rb E ∧ (∀ k, S2 k → S k) ∧ ∀ w1 E', Rt w1 S2 rb E' → Fr S2 w w1 → Pair S w1 nb rb N E' := by
  obtain ⟨S1, S2, h1, h2, h3, h4⟩ := h
  refine ⟨S2, h2, h4, fun w1 E' hd hf => ?_⟩
  have h5 : Nt w1 S1 nb N := h1.step hf (fun k _ hk1 hk2 => (h3 k hk1).2 hk2) (fun _ _ hs => hs)
  exact ⟨S1, S2, h5, hd, h3, h4⟩
end
theorem RtAt.tick {w : World} {S : Nat → Prop} {rb : Nat} {N : PNet} {mv : Value} {us : List Value} (h : RtAt w S rb N mv us) :
    RtAt (w.setCell ⟨rb, 2, none⟩ (.int .i64 ((N.now + 1 : Nat) : Int))) S rb (Go.Proofs.Ytiffoafjgcjgoaa.tick N) mv us := by
  refine h.refile (N' := Go.Proofs.Ytiffoafjgcjgoaa.tick N) (base := 0) (fun _ _ hs => hs) (setCell_same h.blk _) (h.ownM.keep fun k hk => setCell_other (fun e => ?_) _) h.inRow (fun k m u h1 h2 => ?_) h.wf.tick
  · obtain ⟨cur, hc⟩ := h.heap hk
    exact kind_ne hc h.blk (by decide) e
  · have hu := h.bytes k m u h1 h2
    refine hu.keep (fun i hi => ?_) (fun _ _ hs => hs)
    obtain ⟨cur, hc⟩ := hu.1.heap hi
    exact setCell_other (kind_ne hc h.blk (by decide)) _

/-- The act's own cell, laid before the two nets are called. -/
structure Box (S : Nat → Prop) (w W : World) (nb rb : Nat) (N : PNet) (tv bv : Value) (x : PAct) (cs : Array Value) : Prop where
  pair : Pair (fun k => S k ∧ k < w.heap.size) W nb rb N N
  acts : ActC W (fun k => S k ∧ k < w.heap.size) tv bv x
  below : Below w.heap.size w W
  blk : W.heap[w.heap.size]? = some (.cells cs 36 (0, 0))
theorem box_of {S : Nat → Prop} {w : World} {nb rb : Nat} {N : PNet} (hp : Pair S w nb rb N N) {tv bv : Value} {x : PAct} (hA : ActC w S tv bv x) (cs : Array Value) : Box S w (w.alloc (.cells cs 36)) nb rb N tv bv x cs := by
  have hb : Below w.heap.size w (w.alloc (.cells cs 36)) := (Below.refl _ _).alloc (Nat.le_refl _) _
  exact ⟨(hp.mono fun k hk hs => ⟨hs, hk⟩).below hb, hA.step (Fr.of_new hb S) fun k _ hs => hs.1, hb, heap_alloc_new w _⟩
section
variable {S : Nat → Prop} {w W : World} {nb rb : Nat} {N : PNet} {tv bv : Value} {x : PAct} {cs : Array Value}
theorem Box.size (h : Box S w W nb rb N tv bv x cs) : w.heap.size < W.heap.size := block_lt h.blk
/-- The act's cell stays as it is while blocks of the nets and new ones change. -/
theorem Box.keep (h : Box S w W nb rb N tv bv x cs) {w' : World} (hf : Fr (fun k => (S k ∧ k < w.heap.size) ∨ W.heap.size ≤ k) W w') : w'.heap[w.heap.size]? = some (.cells cs 36 (0, 0)) :=
  hf.keep h.blk (fun hs => by have := h.size; omega)
theorem Box.done (h : Box S w W nb rb N tv bv x cs) {w' : World} {N' : PNet} {T : Nat → Prop} (hp : Pair T w' nb rb N' N') (hT : ∀ k, T k → (S k ∧ k < w.heap.size) ∨ w.heap.size ≤ k) (hf : Fr (fun k => (S k ∧ k < w.heap.size) ∨ W.heap.size ≤ k) W w') :
    Pair (More S w.heap.size) w' nb rb N' N' ∧ Fr S w w' :=
  ⟨hp.mono fun k _ hk => (hT k hk).imp (fun h => h.1) id, (Fr.of_new h.below S).trans (hf.mono fun _ _ hs => hs.elim (fun h => .inl h.1) (fun hle => .inr (Nat.le_trans h.below.size hle)))⟩
end

set_option maxRecDepth 100000 in
set_option maxHeartbeats 4000000 in
theorem step_1 (w : World) (S : Nat → Prop) (nb rb : Nat) (N : PNet) (hp : Pair S w nb rb N N) (tv bv : Value) (x : PAct) (hA : ActC w S tv bv x) (hx : FitA x) (hop : x.op = 1) :
    Calls Try.prog 10 #[.pointer (some ⟨nb, 0, none⟩), .pointer (some ⟨rb, 0, none⟩), actV x tv bv] w fun e w' => e = .returned (.bool true) ∧ Pair (More S w.heap.size) w' nb rb (sends x.src x.bytes N x.tos) (sends x.src x.bytes N x.tos) ∧ Fr S w w' := by
  obtain ⟨⟨p1, c1, rfl, _, _, _⟩, p2, c2, rfl, _, _, _⟩ := hA.form
  unfold actV
  rw [hop]
  have hbx := box_of hp hA #[.int .i64 1, .int .i64 x.src, .int .i64 x.dst, .int .i64 x.pick, .slice p1 x.tos.length c1, .slice p2 x.bytes.length c2]
  obtain ⟨W, hW⟩ : ∃ W, w.alloc (.cells #[.int .i64 1, .int .i64 x.src, .int .i64 x.dst, .int .i64 x.pick, .slice p1 x.tos.length c1, .slice p2 x.bytes.length c2] 36) = W := ⟨_, rfl⟩
  rw [hW] at hbx
  obtain ⟨S1, hd, hS1, hnext⟩ := hbx.pair.first
  have HBx := Lib.hid hbx
  have d0 := cell_of (i := 0) hbx.blk rfl
  have d1 := cell_of (i := 1) hbx.blk rfl
  have d4 := cell_of (i := 4) hbx.blk rfl
  have d5 := cell_of (i := 5) hbx.blk rfl
  have HS1 := Lib.hid hS1
  have HNext := Lib.hid hnext
  have HX := Lib.hid hx
  have HC1 := Lib.hid (send_any (W.drewN 1) S1 nb N (hd.drewN 1) x.src _ x.bytes (hbx.acts.bytes.rd.drewN 1) hx.bytes _ x.tos ((hbx.acts.tos.step ((Fr.refl (fun k => S k ∧ k < w.heap.size) W).drewN 1) (fun _ _ h => h)).narrow hS1))
  clear hp hA hx hbx hd hS1 hnext hop
  go_enter Try.func10, Try.ntmps10
  go_wp2_with fail
  go_region_held3 (fun w' => w'.cell? ⟨w.heap.size, 1, none⟩ = some (.int .i64 x.src) ∧ w'.cell? ⟨w.heap.size, 5, none⟩ = some (.slice p2 x.bytes.length c2) ∧ w'.cell? ⟨w.heap.size, 4, none⟩ = some (.slice p1 x.tos.length c1))
    (first
      | exact ⟨d1, d5, d4⟩
      | exact ⟨f1, f5, f4⟩
      | exact ⟨g1, g5, g4⟩)
    (first
      | (go_at_call 12; refine HC1.out.mono ?_; rintro e w1 ⟨rfl, hd1, hf1⟩; have hf1 : Fr S1 W w1 := ⟨hf1.os, hf1.tape, hf1.output, hf1.size, hf1.block⟩; have hk1 := HBx.out.keep (hf1.mono fun k _ hk => .inl (HS1.out k hk)); have f1 := cell_of (i := 1) hk1 rfl; have f5 := cell_of (i := 5) hk1 rfl; have f4 := cell_of (i := 4) hk1 rfl; have HP1 := Lib.hid (HNext.out w1 _ hd1 hf1); have HF1 : Hid (Fr (fun k => S k ∧ k < w.heap.size) W w1) := Lib.hid (hf1.mono fun k _ hk => HS1.out k hk); obtain ⟨S2, hr, hS2, hnext2⟩ := HP1.out.second; have HS2 := Lib.hid hS2; have HNext2 := Lib.hid hnext2; have HC2 := Lib.hid (rsend_any w1 S2 rb N hr x.src _ x.bytes ((HBx.out.acts.bytes.more HF1.out).narrow hS2) HX.out.bytes _ x.tos ((HBx.out.acts.tos.more HF1.out).narrow hS2)); clear hd1 hf1 hk1 hr hS2 hnext2)
      | (go_at_call 17; refine HC2.out.mono ?_; rintro e w2 ⟨rfl, hd2, hf2⟩; have hf12 : Fr (fun k => (S k ∧ k < w.heap.size) ∨ W.heap.size ≤ k) W w2 := (HF1.out.trans (hf2.mono fun k _ hk => HS2.out k hk)).mono fun k _ hk => .inl hk; have hk2 := HBx.out.keep hf12; have g1 := cell_of (i := 1) hk2 rfl; have g5 := cell_of (i := 5) hk2 rfl; have g4 := cell_of (i := 4) hk2 rfl; have HP2 := Lib.hid (HNext2.out w2 _ hd2 hf2); have HF12 := Lib.hid hf12; clear hd2 hf2 hf12 hk2))
  all_goals
    go_wp2_with fail
    go_ret
    obtain ⟨y1, y2⟩ := HBx.out.done HP2.out (fun k hk => by
      have h1 := HBx.out.size
      have h2 := HF1.out.size
      rcases hk with (hk | hk) | hk
      · exact .inl hk
      · exact .inr (by omega)
      · exact .inr (by omega)) HF12.out
    exact ⟨rfl, y1, y2⟩
end Go.Proofs.Ytiffoafjgcjgoaa
