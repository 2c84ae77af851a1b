/-
  The reference's net in memory: 'RtAt w S rb N mv us': block rb of w is a net of the reference that is told by N; its messages lie in the slice mv, their bytes in the slices us; all its blocks are in the set S. Slices of messages: read, cut, appended.
-/
import Derived.Test.YtiffoafjgcjgoaaKnN
import Derived.Deep.DeepCutAuto
namespace Go.Proofs.Ytiffoafjgcjgoaa
open Go.RowKit

/-! ### the cells of a row of messages -/
def cellsM : List Msg → List Value → List Value
  | m :: r, u :: us => .int .i64 (m.src : Int) :: .int .i64 (m.dst : Int) :: u :: cellsM r us
  | _, _ => []
theorem cellsM_length : ∀ (l : List Msg) (us : List Value), us.length = l.length → (cellsM l us).length = l.length * 3
  | [], [], _ => rfl
  | [], _ :: _, h => by simp at h
  | _ :: _, [], h => by simp at h
  | f :: r, u :: us, h => by
    have := cellsM_length r us (by simpa using h)
    simp only [cellsM, List.length_cons, this]
    omega
theorem cellsM_at : ∀ (l : List Msg) (us : List Value) (k : Nat) (m : Msg) (u : Value), l[k]? = some m → us[k]? = some u →
    (cellsM l us)[k * 3]? = some (.int .i64 (m.src : Int)) ∧ (cellsM l us)[k * 3 + 1]? = some (.int .i64 (m.dst : Int)) ∧ (cellsM l us)[k * 3 + 2]? = some u
  | [], _, _, _, _, h, _ => by simp at h
  | _ :: _, [], _, _, _, _, h => by simp at h
  | g :: r, v :: us, 0, f, u, h, hu => by
    obtain rfl : g = f := by simpa using h
    obtain rfl : v = u := by simpa using hu
    exact ⟨rfl, rfl, rfl⟩
  | g :: r, v :: us, k + 1, f, u, h, hu => by
    have := cellsM_at r us k f u (by simpa using h) (by simpa using hu)
    rw [show (k + 1) * 3 = k * 3 + 3 by omega]
    simpa [cellsM] using this
theorem cellsM_append : ∀ (a b : List Msg) (ua ub : List Value), ua.length = a.length → cellsM (a ++ b) (ua ++ ub) = cellsM a ua ++ cellsM b ub
  | [], _, [], _, _ => rfl
  | [], _, _ :: _, _, h => by simp at h
  | _ :: _, _, [], _, h => by simp at h
  | f :: r, b, u :: us, ub, h => by
    have := cellsM_append r b us ub (by simpa using h)
    simp [cellsM, this]
theorem cellsM_take (l : List Msg) (us : List Value) (h : us.length = l.length) (k : Nat) (hk : k ≤ l.length) : (cellsM l us).take (k * 3) = cellsM (l.take k) (us.take k) := by
  have h1 := cellsM_append (l.take k) (l.drop k) (us.take k) (us.drop k) (by simp; omega)
  rw [List.take_append_drop, List.take_append_drop] at h1
  have h2 := cellsM_length (l.take k) (us.take k) (by simp; omega)
  rw [h1, List.take_append_of_le_length (by rw [h2, List.length_take]; omega), List.take_of_length_le (by rw [h2, List.length_take]; omega)]
theorem cellsM_drop (l : List Msg) (us : List Value) (h : us.length = l.length) (k : Nat) (hk : k ≤ l.length) : (cellsM l us).drop (k * 3) = cellsM (l.drop k) (us.drop k) := by
  have h1 := cellsM_append (l.take k) (l.drop k) (us.take k) (us.drop k) (by simp; omega)
  rw [List.take_append_drop, List.take_append_drop] at h1
  have h2 := cellsM_length (l.take k) (us.take k) (by simp; omega)
  rw [h1, List.drop_append_of_le_length (by rw [h2, List.length_take]; omega), List.drop_of_length_le (by rw [h2, List.length_take]; omega), List.nil_append]
theorem cellsM_one : ∀ (l : List Msg) (us : List Value), (∀ u ∈ us, u.oneCell' = true) → ∀ x ∈ cellsM l us, x.oneCell' = true
  | [], _, _, _, h => by simp [cellsM] at h
  | _ :: _, [], _, _, h => by simp [cellsM] at h
  | f :: r, u :: us, hu, x, h => by
    simp only [cellsM, List.mem_cons] at h
    rcases h with rfl | rfl | rfl | h
    · rfl
    · rfl
    · exact hu _ (by simp)
    · exact cellsM_one r us (fun v hv => hu v (by simp [hv])) x h

/-- A row of bytes in a block of S. -/
def InS (S : Nat → Prop) (w : World) (u : Value) (l : List UInt8) : Prop := Own w 0 u l ∧ l.length ≤ 140737488355328 ∧ ∀ j, u.ownBlock = some j → S j
theorem InS.keep {S S' : Nat → Prop} {w w' : World} {u : Value} {l : List UInt8} (h : InS S w u l) (hk : ∀ j, u.ownBlock = some j → w'.heap[j]? = w.heap[j]?) (hS : ∀ k, k < w.heap.size → S k → S' k) : InS S' w' u l :=
  ⟨h.1.keep hk, h.2.1, fun j hj => by
    obtain ⟨cur, hc⟩ := h.1.heap hj
    exact hS j (block_lt hc) (h.2.2 j hj)⟩
theorem InS.step {S T S' : Nat → Prop} {w w' : World} {u : Value} {l : List UInt8} (h : InS S w u l) (hf : Fr T w w') (hd : ∀ k, k < w.heap.size → S k → ¬ T k) (hS : ∀ k, k < w.heap.size → S k → S' k) : InS S' w' u l :=
  h.keep (fun j hj => by
    obtain ⟨cur, hc⟩ := h.1.heap hj
    exact hf.block j (block_lt hc) (hd j (block_lt hc) (h.2.2 j hj))) hS
theorem InS.rd {S : Nat → Prop} {w : World} {u : Value} {l : List UInt8} (h : InS S w u l) : Rd w w.heap.size u l := h.1.rd h.2.1
theorem Own.shape {w : World} {base : Nat} {v : Value} {l : List UInt8} (h : Own w base v l) : ∃ p cap, v = .slice p l.length cap ∧ l.length ≤ cap ∧ cap ≤ 9223372036854775807 := by
  rcases h.2 with ⟨rfl, h0⟩ | ⟨g, cap, cur, rfl, _, hg, h1, h2, _⟩
  · exact ⟨none, 0, by rw [h0], by omega, by omega⟩
  · exact ⟨_, cap, rfl, h1, by unfold maxLen at h2; exact h2⟩
theorem InS.one {S : Nat → Prop} {w : World} {u : Value} {l : List UInt8} (h : InS S w u l) : u.oneCell' = true := by
  obtain ⟨p, cap, rfl, _⟩ := h.1.shape
  rfl

structure RtAt (w : World) (S : Nat → Prop) (rb : Nat) (N : PNet) (mv : Value) (us : List Value) : Prop where
  blk : w.heap[rb]? = some (.cells #[.int .i64 (N.nodes : Int), .int .i64 (N.bound : Int), .int .i64 (N.now : Int), mv] 53 (0, 0))
  row : w.ownsRow 0 41 3 mv N.L.length (cellsM N.L us)
  len : us.length = N.L.length
  bytes : ∀ (k : Nat) (m : Msg) (u : Value), N.L[k]? = some m → us[k]? = some u → InS S w u m.txt
  wf : Wf N
  inS : S rb
  inRow : ∀ k, mv.ownBlock = some k → S k
def Rt (w : World) (S : Nat → Prop) (rb : Nat) (N : PNet) : Prop := ∃ mv us, RtAt w S rb N mv us
section
variable {w w' : World} {S T : Nat → Prop} {rb : Nat} {N : PNet} {mv : Value} {us : List Value}
theorem RtAt.c0 (h : RtAt w S rb N mv us) : w.cell? ⟨rb, 0, none⟩ = some (.int .i64 (N.nodes : Int)) := cell_of h.blk rfl
theorem RtAt.c1 (h : RtAt w S rb N mv us) : w.cell? ⟨rb, 1, none⟩ = some (.int .i64 (N.bound : Int)) := cell_of h.blk rfl
theorem RtAt.c2 (h : RtAt w S rb N mv us) : w.cell? ⟨rb, 2, none⟩ = some (.int .i64 (N.now : Int)) := cell_of h.blk rfl
theorem RtAt.c3 (h : RtAt w S rb N mv us) : w.cell? ⟨rb, 3, none⟩ = some mv := cell_of h.blk rfl
theorem RtAt.fz (h : RtAt w S rb N mv us) (i : Nat) : w.frozen? ⟨rb, i, none⟩ = false := frozen_of h.blk
theorem RtAt.lt (h : RtAt w S rb N mv us) : rb < w.heap.size := block_lt h.blk
theorem RtAt.heap (h : RtAt w S rb N mv us) {k : Nat} (hk : mv.ownBlock = some k) : ∃ cur, w.heap[k]? = some (.cells cur 41 (0, 0)) := by
  rcases h.row.2 with ⟨rfl, _⟩ | ⟨g, cap, cur, rfl, _, hg, _⟩
  · cases hk
  · obtain rfl : g = k := by simpa [Value.ownBlock] using hk
    exact ⟨cur, hg⟩
/-- The slice's shape, and what is read at one place. -/
theorem RtAt.form (h : RtAt w S rb N mv us) : ∃ p cap, mv = .slice p N.L.length cap ∧ N.L.length ≤ cap ∧ cap ≤ 9223372036854775807 ∧
    ∀ k m, N.L[k]? = some m → ∃ g u, p = some ⟨g, 0, none⟩ ∧ w.cell? ⟨g, k * 3, none⟩ = some (.int .i64 (m.src : Int)) ∧ w.cell? ⟨g, k * 3 + 1, none⟩ = some (.int .i64 (m.dst : Int)) ∧ w.cell? ⟨g, k * 3 + 2, none⟩ = some u ∧ us[k]? = some u ∧ InS S w u m.txt := by
  have hrow := h.row
  rcases h.row.2 with ⟨rfl, h0⟩ | ⟨g, cap, cur, rfl, _, hg, h1, h2, _⟩
  · refine ⟨none, 0, by rw [h0], by omega, by omega, fun k f hf => ?_⟩
    have := (List.getElem?_eq_some_iff.1 hf).1
    omega
  · refine ⟨_, cap, rfl, h1, by unfold maxLen at h2; exact h2, fun k f hf => ?_⟩
    have hk := (List.getElem?_eq_some_iff.1 hf).1
    have hu : us[k]? = some (us[k]'(by rw [h.len]; exact hk)) := List.getElem?_eq_getElem _
    obtain ⟨e1, e2, e3⟩ := cellsM_at N.L us k f _ hf hu
    exact ⟨g, _, rfl, (hrow.cellAt (k * 3) (by omega)).trans e1, (hrow.cellAt (k * 3 + 1) (by omega)).trans e2, (hrow.cellAt (k * 3 + 2) (by omega)).trans e3, hu, h.bytes k f _ hf hu⟩
theorem RtAt.step (h : RtAt w S rb N mv us) (hf : Fr T w w') (hd : ∀ k, k < w.heap.size → S k → ¬ T k) {S' : Nat → Prop} (hS : ∀ k, k < w.heap.size → S k → S' k) : RtAt w' S' rb N mv us := by
  refine ⟨hf.keep h.blk (hd _ h.lt h.inS), ⟨h.row.1, ?_⟩, h.len, fun k f u h1 h2 => (h.bytes k f u h1 h2).step hf hd hS, h.wf, hS _ h.lt h.inS, fun k hk => ?_⟩
  · rcases h.row.2 with hn | ⟨g, cap, cur, e, h1, hg, h3⟩
    · exact .inl hn
    · exact .inr ⟨g, cap, cur, e, h1, hf.keep hg (hd g (block_lt hg) (h.inRow g (by rw [e]; rfl))), h3⟩
  · obtain ⟨cur, hc⟩ := h.heap hk
    exact hS k (block_lt hc) (h.inRow k hk)
theorem Rt.step (h : Rt w S rb N) (hf : Fr T w w') (hd : ∀ k, k < w.heap.size → S k → ¬ T k) {S' : Nat → Prop} (hS : ∀ k, k < w.heap.size → S k → S' k) : Rt w' S' rb N := by
  obtain ⟨mv, us, h⟩ := h
  exact ⟨mv, us, h.step hf hd hS⟩
theorem Rt.mono (h : Rt w S rb N) {S' : Nat → Prop} (hS : ∀ k, k < w.heap.size → S k → S' k) : Rt w S' rb N := h.step (Fr.refl (fun _ => False) w) (fun _ _ _ hf => hf) hS
theorem Rt.after (h : Rt w S rb N) (hf : Below w.heap.size w w') : Rt w' S rb N := h.step (Fr.of_new hf (fun _ => False)) (fun _ _ _ hf => hf) (fun _ _ hs => hs)
theorem RtAt.after (h : RtAt w S rb N mv us) (hf : Below w.heap.size w w') : RtAt w' S rb N mv us := h.step (Fr.of_new hf (fun _ => False)) (fun _ _ _ hf => hf) (fun _ _ hs => hs)
theorem Rt.drewN (h : Rt w S rb N) (n : Nat) : Rt (w.drewN n) S rb N := h.after (below_drewN (Below.refl _ _) n)
theorem Rt.weak (h : Rt w S rb N) (B : Nat) : Rt w (More S B) rb N := h.mono fun _ _ hs => .inl hs
theorem Rt.lt (h : Rt w S rb N) : rb < w.heap.size := by
  obtain ⟨_, _, h⟩ := h
  exact h.lt
theorem Rt.wf (h : Rt w S rb N) : Wf N := by
  obtain ⟨_, _, h⟩ := h
  exact h.wf
theorem Rt.inS (h : Rt w S rb N) : S rb := by
  obtain ⟨_, _, h⟩ := h
  exact h.inS
end

theorem infoMsg : (Try.prog.info? 41).map (fun i => (i.zero, i.size, i.bytes)) = some (some (.agg #[.int .i64 0, .int .i64 0, .slice none 0 0]), 3, 40) := by kernel_rfl
theorem sizeMsg (w : World) : (Go.sizeOf 41).run Try.prog w = .ok 3 w := by kernel_rfl
theorem elemMsg : Try.prog.elem 51 = 41 := by simp [Program.elem, Try.underlying51]
theorem underMsg : Try.prog.underlying 51 = some (.slice (Try.prog.elem 51)) := by rw [elemMsg]; exact Try.underlying51

/-- A slice of messages that is read. -/
def Sm (w : World) (v : Value) (fs : List Msg) (us : List Value) : Prop :=
  ∃ p cap, v = .slice p fs.length cap ∧ us.length = fs.length ∧ fs.length ≤ cap ∧ cap ≤ 9223372036854775807 ∧ (p = none → cap = 0) ∧
    ∀ j x, (cellsM fs us)[j]? = some x → ∃ b off, p = some ⟨b, off, none⟩ ∧ b < w.heap.size ∧ w.cell? ⟨b, off + j, none⟩ = some x
theorem Sm.keep {w w' : World} {v : Value} {fs : List Msg} {us : List Value} (h : Sm w v fs us) (hb : Below w.heap.size w w') : Sm w' v fs us := by
  obtain ⟨p, cap, e, h1, h2, h3, h4, h5⟩ := h
  refine ⟨p, cap, e, h1, h2, h3, h4, fun j x hx => ?_⟩
  obtain ⟨b, off, e2, hlt, hc⟩ := h5 j x hx
  exact ⟨b, off, e2, Nat.lt_of_lt_of_le hlt hb.size, (below_cells hb b _ hlt).trans hc⟩
theorem RtAt.sm {w : World} {S : Nat → Prop} {rb : Nat} {N : PNet} {mv : Value} {us : List Value} (h : RtAt w S rb N mv us) : Sm w mv N.L us := by
  have hrow := h.row
  rcases h.row.2 with ⟨rfl, h0⟩ | ⟨g, cap, cur, rfl, _, hg, h1, h2, _⟩
  · refine ⟨none, 0, by rw [h0], h.len, by omega, by omega, fun _ => rfl, fun j x hx => ?_⟩
    have := (List.getElem?_eq_some_iff.1 hx).1
    rw [cellsM_length _ _ h.len] at this
    omega
  · refine ⟨_, cap, rfl, h.len, h1, by unfold maxLen at h2; exact h2, (fun e => by cases e), fun j x hx => ⟨g, 0, rfl, block_lt hg, ?_⟩⟩
    have hj := (List.getElem?_eq_some_iff.1 hx).1
    rw [cellsM_length _ _ h.len] at hj
    rw [Nat.zero_add, hrow.cellAt j hj, hx]
theorem Sm.take {w : World} {v : Value} {fs : List Msg} {us : List Value} (h : Sm w v fs us) {k : Nat} (hk : k ≤ fs.length) :
    ∃ v', Sm w v' (fs.take k) (us.take k) ∧ ∀ W, (Instr.slice 51 v none (some (.int .i64 (k : Int))) none).run Try.prog W = .ok v' W := by
  obtain ⟨p, cap, rfl, h1, h2, h3, h4, h5⟩ := h
  refine ⟨.slice p k cap, ⟨p, cap, by rw [List.length_take, Nat.min_eq_left hk], by simp [h1], by rw [List.length_take]; omega, h3, h4, fun j x hx => h5 j x ?_⟩, fun W => ?_⟩
  · rw [← cellsM_take fs us h1 k hk] at hx
    have hj := (List.getElem?_eq_some_iff.1 hx).1
    rw [List.length_take] at hj
    rw [List.getElem?_take_of_lt (by omega)] at hx
    exact hx
  · rw [run_slice_h W 51 _ _ _ underMsg .i64 _ (by omega) (by omega), elemMsg, sizeMsg]
    simp only [Result.andThen, sliced]
    rw [show ((k : Int)).toNat = k from by omega]
    by_cases hc : cap = 0
    · rw [if_pos hc]; simp
    · rw [if_neg hc]
      cases p with
      | none => simp
      | some a => cases a; simp [Addr.add]
theorem Sm.drop {w : World} {v : Value} {fs : List Msg} {us : List Value} (h : Sm w v fs us) {k : Nat} (hk : k ≤ fs.length) :
    ∃ v', Sm w v' (fs.drop k) (us.drop k) ∧ ∀ W, (Instr.slice 51 v (some (.int .i64 (k : Int))) none none).run Try.prog W = .ok v' W := by
  obtain ⟨p, cap, rfl, h1, h2, h3, h4, h5⟩ := h
  have hcl := cellsM_length fs us h1
  refine ⟨.slice (if cap = k then p else p.map (·.add (k * 3))) (fs.length - k) (cap - k), ⟨_, _, by rw [List.length_drop], by simp [h1], by rw [List.length_drop]; omega, by omega, fun hp => ?_, fun j x hx => ?_⟩, fun W => ?_⟩
  · split at hp
    · omega
    · have : p = none := by
        cases p with
        | none => rfl
        | some a => cases hp
      have := h4 this
      omega
  · rw [← cellsM_drop fs us h1 k hk] at hx
    have hj := (List.getElem?_eq_some_iff.1 hx).1
    rw [List.length_drop, hcl] at hj
    rw [List.getElem?_drop] at hx
    obtain ⟨b, off, rfl, hlt, hc⟩ := h5 _ x hx
    refine ⟨b, off + k * 3, ?_, hlt, by rw [Nat.add_assoc]; exact hc⟩
    rw [if_neg (by omega)]
    simp [Addr.add_mid]
  · rw [run_slice_l W 51 _ _ _ underMsg .i64 _ (by omega) (by omega), elemMsg, sizeMsg]
    simp only [Result.andThen, sliced]
    rw [show ((k : Int)).toNat = k from by omega]
/-- A new row of one message. -/
theorem Sm.new (w : World) (m : Msg) (u : Value) (t : TypeId) : Sm (w.alloc (.cells #[.int .i64 (m.src : Int), .int .i64 (m.dst : Int), u] t)) (.slice (some ⟨w.heap.size, 0, none⟩) 1 1) [m] [u] :=
  ⟨_, _, rfl, rfl, Nat.le_refl _, by omega, (fun e => by cases e), fun j x hx => ⟨w.heap.size, 0, rfl, by simp, by
    rw [Nat.zero_add]
    exact cell_of (heap_alloc_new w _) (by simpa [cellsM] using hx)⟩⟩

/-- A row of messages of the call's own. -/
def OwnM (w : World) (base : Nat) (v : Value) (fs : List Msg) (us : List Value) : Prop := us.length = fs.length ∧ w.ownsRow base 41 3 v fs.length (cellsM fs us)
theorem OwnM.lit (w : World) (base : Nat) (hb : base ≤ w.heap.size) : OwnM (w.alloc (.cells #[] 41)) base (.slice (some ⟨w.heap.size, 0, none⟩) 0 0) [] [] :=
  ⟨rfl, by simpa [cellsM] using World.ownsRow_lit (e := 41) (size := 3) w #[] 0 hb (Nat.zero_le _) rfl⟩
theorem OwnM.nil (w : World) (base : Nat) : OwnM w base (.slice none 0 0) [] [] := ⟨rfl, World.ownsRow_nil _ _ _ _⟩
theorem OwnM.shape {w : World} {base : Nat} {v : Value} {fs : List Msg} {us : List Value} (h : OwnM w base v fs us) : ∃ p cap, v = .slice p fs.length cap ∧ fs.length ≤ cap ∧ cap ≤ 9223372036854775807 := by
  rcases h.2.2 with ⟨rfl, h0⟩ | ⟨g, cap, cur, rfl, _, hg, h1, h2, _⟩
  · exact ⟨none, 0, by rw [h0], by omega, by omega⟩
  · exact ⟨_, cap, rfl, h1, by unfold maxLen at h2; exact h2⟩
theorem OwnM.keep {w w' : World} {base : Nat} {v : Value} {fs : List Msg} {us : List Value} (h : OwnM w base v fs us) (hk : ∀ k, v.ownBlock = some k → w'.heap[k]? = w.heap[k]?) : OwnM w' base v fs us := by
  refine ⟨h.1, h.2.1, ?_⟩
  rcases h.2.2 with hn | ⟨g, cap, cur, rfl, h1, h2, h3⟩
  · exact .inl hn
  · exact .inr ⟨g, cap, cur, rfl, h1, (hk g (by simp [Value.ownBlock])).trans h2, h3⟩
theorem OwnM.low {w : World} {base : Nat} {v : Value} {fs : List Msg} {us : List Value} (h : OwnM w base v fs us) : ∀ k, v.ownBlock = some k → base ≤ k := fun k hk => (World.ownsRow.lt h.2 k hk).1
theorem OwnM.heap {w : World} {base : Nat} {v : Value} {fs : List Msg} {us : List Value} (h : OwnM w base v fs us) {k : Nat} (hk : v.ownBlock = some k) : ∃ cur, w.heap[k]? = some (.cells cur 41 (0, 0)) := by
  rcases h.2.2 with ⟨rfl, _⟩ | ⟨g, cap, cur, rfl, _, hg, _⟩
  · cases hk
  · obtain rfl : g = k := by simpa [Value.ownBlock] using hk
    exact ⟨cur, hg⟩
/-- append onto a row of messages: the run, from whatever slice of messages. -/
theorem run_append_M (w : World) (base : Nat) (ty : TypeId) {v u : Value} {fs gs : List Msg} {us ws : List Value} (hown : OwnM w base v fs us) (hsf : Sm w u gs ws) (hws : ∀ x ∈ ws, x.oneCell' = true)
    (hlen : fs.length + gs.length ≤ 1099511627776) (hbase : base ≤ w.heap.size) :
    ∃ v' w', (Builtin.append_ #[51, 51] ty #[v, u]).run Try.prog w = .ok v' w' ∧ OwnM w' base v' (fs ++ gs) (us ++ ws) ∧ w.grownBy w' v.ownBlock ∧ (v'.ownBlock = v.ownBlock ∨ v'.ownBlock = some w.heap.size) := by
  obtain ⟨i0, hi, hz0, hz1, hz2⟩ := info_parts infoMsg
  obtain ⟨p, cap, rfl, h1, h2, h3, h4, h5⟩ := hsf
  cases p with
  | none =>
    have hc := h4 rfl
    subst hc
    have hg : gs = [] := List.eq_nil_of_length_eq_zero (by omega)
    subst hg
    have hw : ws = [] := List.eq_nil_of_length_eq_zero (by simpa using h1)
    subst hw
    have hrun := run_append_owned_none (P := Try.prog) (w := w) base 51 ty 41 i0 3 Try.underlying51 hi v _ _ hown.2
    exact ⟨v, w, hrun, by simpa using hown, ⟨rfl, rfl, rfl, Nat.le_refl _, fun _ _ _ => rfl⟩, .inl rfl⟩
  | some ad =>
    obtain ⟨v', w', hr, ho, hg, _, ha⟩ := run_append_own_at (P := Try.prog) w base 51 ty 41 i0 _ 3 40 Try.underlying51 hi hz0 hz1 hz2 rfl (by decide) v _ _ hown.2 ad gs.length cap (cellsM gs ws) (cellsM_length gs ws h1)
      (fun j x hx => by
        obtain ⟨b, off, e, _, hc⟩ := h5 j x hx
        obtain rfl := Option.some.inj e
        rw [Addr.add_mid]
        exact hc) (cellsM_one gs ws hws) (by unfold maxLen; omega) (by omega) hbase
    refine ⟨v', w', hr, ⟨by simp [hown.1, h1], ?_⟩, hg, ha⟩
    rw [List.length_append, cellsM_append fs gs us ws hown.1]
    exact ho
theorem step_append_M {ops : Array Oper} {o : Oper} {a : Act} {w : World} {K : Act → World → Prop} {Q : Exit → Act → World → Prop} {E : Prop} (hg : o.guard = none) (s x : Operand)
    (hop : o.op = Op.call { callee := Callee.builtin Builtin.append, args := #[s, x], argTypes := #[51, 51] })
    (base : Nat) {v u : Value} {fs gs : List Msg} {us ws : List Value} (hs : a.eval s = v) (hx : a.eval x = u) (hown : OwnM w base v fs us) (hsf : Sm w u gs ws) (hws : ∀ x ∈ ws, x.oneCell' = true)
    (hlen : fs.length + gs.length ≤ 1099511627776) (hbase : base ≤ w.heap.size)
    (hK : ∀ v' w', OwnM w' base v' (fs ++ gs) (us ++ ws) → w.grownBy w' v.ownBlock → (v'.ownBlock = v.ownBlock ∨ v'.ownBlock = some w.heap.size) → K (a.put o.dst v') w') :
    if Region.wanted o (yielded ops a.tmps) = true then Oper.wp Try.prog o a w K Q else E := by
  have hw : Region.wanted o (yielded ops a.tmps) = true := by simp [Region.wanted, hg]
  rw [if_pos hw]
  obtain ⟨v', w', hrun, h1, h2, h3⟩ := run_append_M w base o.type hown hsf hws hlen hbase
  unfold Oper.wp
  simp [execOp, hop, resolve, invoke, builtin, hs, hx, hrun, Result.andThen]
  exact hK v' w' h1 h2 h3
theorem wpList_append_M {w : World} {ops : Array Oper} {rest : List Oper} {o : Oper} {a : Act} {Q : Exit → Act → World → Prop} (hg : o.guard = none) (s x : Operand)
    (hop : o.op = Op.call { callee := Callee.builtin Builtin.append, args := #[s, x], argTypes := #[51, 51] })
    (base : Nat) {v u : Value} {fs gs : List Msg} {us ws : List Value} (hs : a.eval s = v) (hx : a.eval x = u) (hown : OwnM w base v fs us) (hsf : Sm w u gs ws) (hws : ∀ x ∈ ws, x.oneCell' = true)
    (hlen : fs.length + gs.length ≤ 1099511627776) (hbase : base ≤ w.heap.size)
    (hK : ∀ v' w', OwnM w' base v' (fs ++ gs) (us ++ ws) → w.grownBy w' v.ownBlock → (v'.ownBlock = v.ownBlock ∨ v'.ownBlock = some w.heap.size) → wpList Try.prog ops Q rest (a.put o.dst v') w') : wpList Try.prog ops Q (o :: rest) a w := by
  refine wpList_plain hg fun K hKK => ?_
  obtain ⟨v', w', hrun, h1, h2, h3⟩ := run_append_M w base o.type hown hsf hws hlen hbase
  unfold Oper.wp
  simp [execOp, hop, resolve, invoke, builtin, hs, hx, hrun, Result.andThen]
  exact hKK _ _ (hK v' w' h1 h2 h3)

section
variable {w w' : World} {S : Nat → Prop} {rb : Nat} {N : PNet} {mv : Value} {us : List Value}
theorem RtAt.ones (h : RtAt w S rb N mv us) : ∀ u ∈ us, u.oneCell' = true := fun u hu => by
  obtain ⟨k, hk, rfl⟩ := List.getElem_of_mem hu
  have hk2 : k < N.L.length := by rw [← h.len]; exact hk
  exact (h.bytes k _ _ (List.getElem?_eq_getElem hk2) (List.getElem?_eq_getElem hk)).one
/-- Other messages, in a row that lies in S or is new; the disk's own block has been laid anew. -/
theorem RtAt.refile (h : RtAt w S rb N mv us) {T : Nat → Prop} {N' : PNet} {us' : List Value} {mv' : Value} {base : Nat} (hT : ∀ k, k < w.heap.size → S k → T k)
    (hblk : w'.heap[rb]? = some (.cells #[.int .i64 (N'.nodes : Int), .int .i64 (N'.bound : Int), .int .i64 (N'.now : Int), mv'] 53 (0, 0))) (hown : OwnM w' base mv' N'.L us')
    (hrow : ∀ k, mv'.ownBlock = some k → T k) (hby : ∀ (k : Nat) (m : Msg) (u : Value), N'.L[k]? = some m → us'[k]? = some u → InS T w' u m.txt) (hwf : Wf N') :
    RtAt w' T rb N' mv' us' := by
  refine ⟨hblk, ⟨hown.2.1, ?_⟩, hown.1, hby, hwf, hT _ h.lt h.inS, hrow⟩
  rcases hown.2.2 with hn | ⟨g, cap, cur, e, _, hg⟩
  · exact .inl hn
  · exact .inr ⟨g, cap, cur, e, Nat.zero_le _, hg⟩
theorem RtAt.ownM (h : RtAt w S rb N mv us) : OwnM w 0 mv N.L us := ⟨h.len, h.row⟩
/-- A message's bytes lie neither in the net's own block nor in the row of messages. -/
theorem RtAt.free (h : RtAt w S rb N mv us) {u : Value} {l : List UInt8} (hu : InS S w u l) : ∀ j, u.ownBlock = some j → j ≠ rb ∧ mv.ownBlock ≠ some j := fun j hj => by
  obtain ⟨cur, hc⟩ := hu.1.heap hj
  refine ⟨kind_ne hc h.blk (by decide), fun e => ?_⟩
  obtain ⟨cur2, hc2⟩ := h.heap e
  exact kind_ne hc hc2 (by decide) rfl
end
/-- Two lists of one length, cut alike. -/
theorem pair_cut {α β : Type} {a : List α} {b : List β} (h : b.length = a.length) {i j : Nat} (hij : i ≤ j) (hj : j ≤ a.length) {k : Nat} {x : α} {y : β} (hx : (a.take i ++ a.drop j)[k]? = some x) (hy : (b.take i ++ b.drop j)[k]? = some y) : ∃ m : Nat, a[m]? = some x ∧ b[m]? = some y := by
  by_cases hk : k < i
  · rw [List.getElem?_append_left (by rw [List.length_take]; omega), List.getElem?_take_of_lt hk] at hx hy
    exact ⟨k, hx, hy⟩
  · rw [List.getElem?_append_right (by rw [List.length_take]; omega), List.length_take, List.getElem?_drop] at hx hy
    refine ⟨j + (k - min i a.length), hx, ?_⟩
    rw [← hy, h]
theorem q_same {P : Program} {f : FuncId} {args : Array Value} {w : World} {n : Nat} {v : Value}
    (h : Calls P f args (w.drewN n) fun e w' => e = .returned v ∧ w.drewN n = w') : Calls P f args (w.drewN n) fun e w'' => e = .returned v ∧ ∃ m, w'' = w.drewN m :=
  h.mono fun _ _ ⟨he, hm⟩ => ⟨he, n, hm.symm⟩
end Go.Proofs.Ytiffoafjgcjgoaa
