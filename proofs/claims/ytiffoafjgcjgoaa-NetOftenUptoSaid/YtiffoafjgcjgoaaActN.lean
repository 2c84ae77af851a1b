/-
  Acts on nets, told plainly and in memory; two nets side by side, one of each kind; the walks over few and same.
-/
import Derived.Test.YtiffoafjgcjgoaaRtE
import Derived.Deep.RegionHeld3
namespace Go.Proofs.Ytiffoafjgcjgoaa
open Go.RowKit

/-- One act of a play. -/
structure PAct where
  op : Int
  src : Int
  dst : Int
  pick : Int
  tos : List Int
  bytes : List UInt8
instance : Inhabited PAct := ⟨⟨0, 0, 0, 0, [], []⟩⟩
def act (N : PNet) (x : PAct) : PNet := if x.op = 1 then sends x.src x.bytes N x.tos else if x.op = 2 then take1 N x.src x.dst x.pick else if x.op = 3 then take1 N x.src x.dst x.pick else if x.op = 4 then dbl N x.src x.dst x.pick else if x.op = 5 then clear_ N x.src else if x.op = 6 then tick N else N
theorem take1_now (N : PNet) (f t p : Int) : (take1 N f t p).now = N.now := by
  unfold take1
  split <;> rfl
theorem dbl_now (N : PNet) (f t p : Int) : (dbl N f t p).now = N.now := by
  unfold dbl
  split
  · exact lay1_now _ _ _ _
  · rfl
theorem act_now (N : PNet) (x : PAct) : (act N x).now ≤ N.now + 1 := by
  unfold act
  split
  · rw [sends_now]; omega
  · split
    · rw [take1_now]; omega
    · split
      · rw [take1_now]; omega
      · split
        · rw [dbl_now]; omega
        · split
          · exact Nat.le_succ _
          · split
            · exact Nat.le_refl _
            · exact Nat.le_succ _

/-- The two slices of an act. -/
structure ActC (w : World) (S : Nat → Prop) (tv bv : Value) (x : PAct) : Prop where
  tos : RdV w S tv (x.tos.map (Value.int .i64))
  bytes : RdV w S bv (bs x.bytes)
/-- Its numbers are an int's, its bytes are few. -/
structure FitA (x : PAct) : Prop where
  op : -9223372036854775808 ≤ x.op ∧ x.op ≤ 9223372036854775807
  src : -9223372036854775808 ≤ x.src ∧ x.src ≤ 9223372036854775807
  dst : -9223372036854775808 ≤ x.dst ∧ x.dst ≤ 9223372036854775807
  pick : -9223372036854775808 ≤ x.pick ∧ x.pick ≤ 9223372036854775807
  tos : x.tos.length ≤ 1048576
  bytes : x.bytes.length ≤ 1048576
theorem ActC.step {w w' : World} {S T : Nat → Prop} {tv bv : Value} {x : PAct} (h : ActC w S tv bv x) (hf : Fr S w w') (hT : ∀ k, k < w.heap.size → T k → S k) : ActC w' T tv bv x :=
  ⟨h.tos.step hf hT, h.bytes.step hf hT⟩
/-- An act as a value. -/
def actV (x : PAct) (tv bv : Value) : Value := .agg #[.int .i64 x.op, .int .i64 x.src, .int .i64 x.dst, .int .i64 x.pick, tv, bv]
/-- A slice of acts, in blocks outside S. -/
def RdA (w : World) (S : Nat → Prop) (v : Value) (xs : List PAct) : Prop :=
  ∃ p cap, v = .slice p xs.length cap ∧ xs.length ≤ cap ∧ xs.length ≤ 140737488355328 ∧ cap ≤ 9223372036854775807 ∧
    ∀ k x, xs[k]? = some x → ∃ b off tv bv, p = some ⟨b, off, none⟩ ∧ b < w.heap.size ∧ ¬ S b ∧ ActC w S tv bv x ∧
      w.cell? ⟨b, off + k * 6, none⟩ = some (.int .i64 x.op) ∧ w.cell? ⟨b, off + k * 6 + 1, none⟩ = some (.int .i64 x.src) ∧ w.cell? ⟨b, off + k * 6 + 2, none⟩ = some (.int .i64 x.dst) ∧
      w.cell? ⟨b, off + k * 6 + 3, none⟩ = some (.int .i64 x.pick) ∧ w.cell? ⟨b, off + k * 6 + 4, none⟩ = some tv ∧ w.cell? ⟨b, off + k * 6 + 5, none⟩ = some bv
theorem RdA.step {w w' : World} {S T : Nat → Prop} {v : Value} {xs : List PAct} (h : RdA w S v xs) (hf : Fr S w w') (hT : ∀ k, k < w.heap.size → T k → S k) : RdA w' T v xs := by
  obtain ⟨p, cap, e, h1, h2, h3, h5⟩ := h
  refine ⟨p, cap, e, h1, h2, h3, fun k x hx => ?_⟩
  obtain ⟨b, off, tv, bv, e2, hb, hs, hA, d0, d1, d2, d3, d4, d5⟩ := h5 k x hx
  have hk := hf.block b hb hs
  exact ⟨b, off, tv, bv, e2, Nat.lt_of_lt_of_le hb hf.size, fun ht => hs (hT b hb ht), hA.step hf hT, (World.cell?_of_block hk).trans d0, (World.cell?_of_block hk).trans d1, (World.cell?_of_block hk).trans d2, (World.cell?_of_block hk).trans d3, (World.cell?_of_block hk).trans d4, (World.cell?_of_block hk).trans d5⟩
theorem RdA.form {w : World} {S : Nat → Prop} {v : Value} {xs : List PAct} (h : RdA w S v xs) : ∃ p cap, v = .slice p xs.length cap ∧ xs.length ≤ cap ∧ xs.length ≤ 140737488355328 ∧ cap ≤ 9223372036854775807 := by
  obtain ⟨p, cap, e, h1, h2, h3, _⟩ := h
  exact ⟨p, cap, e, h1, h2, h3⟩
theorem RdA.at_ {w : World} {S : Nat → Prop} {p : Option Addr} {n cap : Nat} {xs : List PAct} (h : RdA w S (.slice p n cap) xs) {k : Nat} {x : PAct} (hk : xs[k]? = some x) :
    ∃ b off tv bv, p = some ⟨b, off, none⟩ ∧ b < w.heap.size ∧ ¬ S b ∧ ActC w S tv bv x ∧
      w.cell? ⟨b, off + k * 6, none⟩ = some (.int .i64 x.op) ∧ w.cell? ⟨b, off + k * 6 + 1, none⟩ = some (.int .i64 x.src) ∧ w.cell? ⟨b, off + k * 6 + 2, none⟩ = some (.int .i64 x.dst) ∧
      w.cell? ⟨b, off + k * 6 + 3, none⟩ = some (.int .i64 x.pick) ∧ w.cell? ⟨b, off + k * 6 + 4, none⟩ = some tv ∧ w.cell? ⟨b, off + k * 6 + 5, none⟩ = some bv := by
  obtain ⟨p', cap', e, _, _, _, h5⟩ := h
  injection e with e1 e2 e3
  subst e1
  exact h5 k x hk
/-- What came in, read behind what was made since. -/
theorem RdA.lift {W w' : World} {v : Value} {xs : List PAct} (h : RdA W (fun _ => False) v xs) (hb : Below W.heap.size W w') {n : Nat} (hn : W.heap.size ≤ n) : RdA w' (fun k => n ≤ k) v xs :=
  h.step (Fr.of_new hb _) fun k hk hi => by omega
theorem ActC.form {w : World} {S : Nat → Prop} {tv bv : Value} {x : PAct} (h : ActC w S tv bv x) : (∃ p c, tv = .slice p x.tos.length c ∧ x.tos.length ≤ c ∧ x.tos.length ≤ 140737488355328 ∧ c ≤ 9223372036854775807) ∧ ∃ p c, bv = .slice p x.bytes.length c ∧ x.bytes.length ≤ c ∧ x.bytes.length ≤ 140737488355328 ∧ c ≤ 9223372036854775807 := by
  have h1 := h.tos.form
  have h2 := h.bytes.form
  rw [List.length_map] at h1
  rw [bs_length] at h2
  exact ⟨h1, h2⟩

/-- A net of the program at nb that is told by N, one of the reference at rb that is told by E, with no block together; all in S. -/
def Pair (S : Nat → Prop) (w : World) (nb rb : Nat) (N E : PNet) : Prop :=
  ∃ S1 S2 : Nat → Prop, Nt w S1 nb N ∧ Rt w S2 rb E ∧ (∀ k, S1 k → S k ∧ ¬ S2 k) ∧ (∀ k, S2 k → S k)
section
variable {S T : Nat → Prop} {w w' : World} {nb rb : Nat} {N E : PNet}
theorem Pair.mono (h : Pair S w nb rb N E) (hS : ∀ k, k < w.heap.size → S k → T k) : Pair T w nb rb N E := by
  obtain ⟨S1, S2, h1, h2, h3, h4⟩ := h
  exact ⟨fun k => S1 k ∧ k < w.heap.size, fun k => S2 k ∧ k < w.heap.size, h1.mono fun k hk hs => ⟨hs, hk⟩, h2.mono fun k hk hs => ⟨hs, hk⟩, fun k hk => ⟨hS k hk.2 (h3 k hk.1).1, fun hm => (h3 k hk.1).2 hm.1⟩, fun k hk => hS k hk.2 (h4 k hk.1)⟩
theorem Pair.below (h : Pair S w nb rb N E) (hb : Below w.heap.size w w') : Pair S w' nb rb N E := by
  obtain ⟨S1, S2, h1, h2, h3, h4⟩ := h
  exact ⟨S1, S2, h1.after hb, h2.after hb, h3, h4⟩
theorem Pair.one (h : Pair S w nb rb N E) : Nt w S nb N := by
  obtain ⟨S1, S2, h1, h2, h3, h4⟩ := h
  exact h1.mono fun k _ hk => (h3 k hk).1
theorem Pair.two (h : Pair S w nb rb N E) : Rt w S rb E := by
  obtain ⟨S1, S2, h1, h2, h3, h4⟩ := h
  exact h2.mono fun k _ hk => h4 k hk
/-- A call on the program's net. -/
theorem Pair.first (h : Pair S w nb rb N E) : ∃ S1 : Nat → Prop, Nt w S1 nb N ∧ (∀ k, S1 k → S k) ∧ ∀ w1 N', Nt w1 (More S1 w.heap.size) nb N' → Fr S1 w w1 → Pair (More S w.heap.size) w1 nb rb N' E := by
  obtain ⟨S1, S2, h1, h2, h3, h4⟩ := h
  refine ⟨S1, h1, fun k hk => (h3 k hk).1, fun w1 N' hd hf => ?_⟩
  have h5 : Rt w1 (fun k => S2 k ∧ k < w.heap.size) rb E := h2.step hf (fun k _ hk2 hk1 => (h3 k hk1).2 hk2) (fun k hk hs => ⟨hs, hk⟩)
  exact ⟨More S1 w.heap.size, _, hd, h5, fun k hk => ⟨hk.imp (fun h => (h3 k h).1) id, fun hm => hk.elim (fun h => (h3 k h).2 hm.1) (fun hle => by have := hm.2; omega)⟩, fun k hk => .inl (h4 k hk.1)⟩
/-- A call on the reference's net. -/
theorem Pair.second (h : Pair S w nb rb N E) : ∃ S2 : Nat → Prop, Rt w S2 rb E ∧ (∀ k, S2 k → S k) ∧ ∀ w1 E', Rt w1 (More S2 w.heap.size) rb E' → Fr S2 w w1 → Pair (More S w.heap.size) w1 nb rb N E' := by
  obtain ⟨S1, S2, h1, h2, h3, h4⟩ := h
  refine ⟨S2, h2, h4, fun w1 E' hd hf => ?_⟩
  have h5 : Nt w1 (fun k => S1 k ∧ k < w.heap.size) nb N := h1.step hf (fun k _ hk1 hk2 => (h3 k hk1).2 hk2) (fun k hk hs => ⟨hs, hk⟩)
  exact ⟨_, More S2 w.heap.size, h5, hd, fun k hk => ⟨.inl (h3 k hk.1).1, fun hm => hm.elim (h3 k hk.1).2 (fun hle => by have := hk.2; omega)⟩, fun k hk => hk.imp (h4 k) id⟩
end
theorem RdV.narrow {w : World} {S T : Nat → Prop} {v : Value} {xs : List Value} (h : RdV w S v xs) (hT : ∀ k, T k → S k) : RdV w T v xs := h.step (Fr.refl _ _) fun k _ hk => hT k hk

def SomeBool (e : Ending) : Prop := ∃ r, e = .returned (.bool r)
theorem someBool (r : Bool) : SomeBool (.returned (.bool r)) := ⟨r, rfl⟩

set_option maxRecDepth 100000 in
set_option maxHeartbeats 4000000 in
theorem few_any (w : World) (S : Nat → Prop) (v : Value) (xs : List PAct) (h : RdA w S v xs) :
    Calls Try.prog 7 #[v] w fun e w' => SomeBool e ∧ ∃ n, w' = w.drewN n := by
  have HV := Lib.hid h
  obtain ⟨p, cap, rfl, hlc, hl47, hcm⟩ := h.form
  clear h
  go_enter Try.func7, Try.ntmps7
  go_wp2_with fail
  go_loopw [3, 4] (fun n i wr => ∃ (N : Int) (k m : Nat), k ≤ xs.length ∧ n = .int .i64 N ∧ i = .int .i64 (k : Int) ∧ wr = w.drewN m) (fun _ i _ => xs.length - (intOf i).toNat)
  case atStart => exact ⟨0, 0, 0, by omega, rfl, rfl, rfl⟩
  case round =>
    obtain ⟨N, k, m, hk, rfl, rfl, rfl⟩ := hrel
    by_cases hlt : k < xs.length
    · obtain ⟨b, off, tv, bv, rfl, hb, hS, hA, d0, d1, d2, d3, d4, d5⟩ := HV.out.at_ (List.getElem?_eq_getElem hlt)
      generalize xs[k] = x at *
      obtain ⟨⟨p1, c1, rfl, h11, h12, h13⟩, p2, c2, rfl, h21, h22, h23⟩ := hA.form
      clear hA d0 d1 d2 d3
      by_cases q1 : (1000 : Int) < (x.bytes.length : Int)
      · go_wp2_with fail
        go_quiet (fail)
        go_wp2_with fail
        go_ret
        exact ⟨someBool _, _, rfl⟩
      · by_cases q2 : (100 : Int) < (x.tos.length : Int)
        · go_wp2_with fail
          go_quiet (fail)
          go_wp2_with fail
          go_ret
          exact ⟨someBool _, _, rfl⟩
        · go_wp2_with fail
          go_quiet (fail)
          go_wp2_with fail
          go_roundw
          case rel => exact ⟨_, k + 1, _, by omega, rfl, by go_num, rfl⟩
          case measure => simp [intOf]; omega
    · go_wp2_with fail
      all_goals
        go_ret
        exact ⟨someBool _, _, rfl⟩

set_option maxRecDepth 100000 in
set_option maxHeartbeats 1000000 in
theorem same_any (w : World) (f t : Int) (u v : Value) (l : List UInt8) (hu : Rd w w.heap.size u l) (hv : Rd w w.heap.size v l) :
    Calls Try.prog 19 #[.agg #[.int .i64 f, .int .i64 t, u], .agg #[.int .i64 f, .int .i64 t, v]] w fun e w' => e = .returned (.bool true) ∧ Below w.heap.size w w' := by
  obtain ⟨pu, cu, rfl, _, _, _, _⟩ := hu.form
  obtain ⟨pv, cv, rfl, _, _, _, _⟩ := hv.form
  obtain ⟨X, hX⟩ : ∃ X, (w.alloc (.cells #[.int .i64 f, .int .i64 t, .slice pu l.length cu] 41)).alloc (.cells #[.int .i64 f, .int .i64 t, .slice pv l.length cv] 41) = X := ⟨_, rfl⟩
  have hb : Below w.heap.size w X := by rw [← hX]; exact ((Below.refl _ _).alloc (Nat.le_refl _) _).alloc (by simp) _
  have hst1 := str_run (hu.below hb)
  have hst2 := str_run (hv.below hb)
  have q1 : (f == f) = true := by simp
  have q2 : (t == t) = true := by simp
  have hXa : X.heap[w.heap.size]? = some (.cells #[.int .i64 f, .int .i64 t, .slice pu l.length cu] 41 (0, 0)) := by
    rw [← hX]
    exact (alloc_old (by simp) _).trans (heap_alloc_new w _)
  have hXb : X.heap[w.heap.size + 1]? = some (.cells #[.int .i64 f, .int .i64 t, .slice pv l.length cv] 41 (0, 0)) := by
    rw [← hX]
    exact heap_alloc2_new w _ _
  have a0 := cell_of (i := 0) hXa rfl
  have a1 := cell_of (i := 1) hXa rfl
  have a2 := cell_of (i := 2) hXa rfl
  have b0 := cell_of (i := 0) hXb rfl
  have b1 := cell_of (i := 1) hXb rfl
  have b2 := cell_of (i := 2) hXb rfl
  have HB := Lib.hid hb
  clear hb hu hv hXa hXb
  go_enter Try.func19, Try.ntmps19
  go_wp2_with fail
  go_ret
  exact ⟨rfl, HB.out⟩
end Go.Proofs.Ytiffoafjgcjgoaa
