/-
  The reference's disk in memory: 'RfAt w S rb D fv us': block rb of w is a disk of the reference that is told by D; its files lie in the slice fv, their bytes in the slices us; all its blocks are in the set S.
-/
import Derived.Test.YtlekffhacmdnnaaRfP
import Derived.Test.YtlekffhacmdnnaaDkB
namespace Go.Proofs.Ytlekffhacmdnnaa
open Go.RowKit

/-! ### the cells of a row of files -/
def cellsF : List Fl → List Value → List Value
  | f :: r, u :: us => .string ⟨f.name.toArray⟩ :: u :: .int .i64 (f.synced : Int) :: cellsF r us
  | _, _ => []
theorem cellsF_length : ∀ (l : List Fl) (us : List Value), us.length = l.length → (cellsF l us).length = l.length * 3
  | [], [], _ => rfl
  | [], _ :: _, h => by simp at h
  | _ :: _, [], h => by simp at h
  | f :: r, u :: us, h => by
    have := cellsF_length r us (by simpa using h)
    simp only [cellsF, List.length_cons, this]
    omega
theorem cellsF_at : ∀ (l : List Fl) (us : List Value) (k : Nat) (f : Fl) (u : Value), l[k]? = some f → us[k]? = some u →
    (cellsF l us)[k * 3]? = some (.string ⟨f.name.toArray⟩) ∧ (cellsF l us)[k * 3 + 1]? = some u ∧ (cellsF l us)[k * 3 + 2]? = some (.int .i64 (f.synced : Int))
  | [], _, _, _, _, h, _ => by simp at h
  | _ :: _, [], _, _, _, _, h => by simp at h
  | g :: r, v :: us, 0, f, u, h, hu => by
    obtain rfl : g = f := by simpa using h
    obtain rfl : v = u := by simpa using hu
    exact ⟨rfl, rfl, rfl⟩
  | g :: r, v :: us, k + 1, f, u, h, hu => by
    have := cellsF_at r us k f u (by simpa using h) (by simpa using hu)
    rw [show (k + 1) * 3 = k * 3 + 3 by omega]
    simpa [cellsF] using this
theorem cellsF_append : ∀ (a b : List Fl) (ua ub : List Value), ua.length = a.length → cellsF (a ++ b) (ua ++ ub) = cellsF a ua ++ cellsF b ub
  | [], _, [], _, _ => rfl
  | [], _, _ :: _, _, h => by simp at h
  | _ :: _, _, [], _, h => by simp at h
  | f :: r, b, u :: us, ub, h => by
    have := cellsF_append r b us ub (by simpa using h)
    simp [cellsF, this]
theorem cellsF_take (l : List Fl) (us : List Value) (h : us.length = l.length) (k : Nat) (hk : k ≤ l.length) : (cellsF l us).take (k * 3) = cellsF (l.take k) (us.take k) := by
  have h1 := cellsF_append (l.take k) (l.drop k) (us.take k) (us.drop k) (by simp; omega)
  rw [List.take_append_drop, List.take_append_drop] at h1
  have h2 := cellsF_length (l.take k) (us.take k) (by simp; omega)
  rw [h1, List.take_append_of_le_length (by rw [h2, List.length_take]; omega), List.take_of_length_le (by rw [h2, List.length_take]; omega)]
theorem cellsF_drop (l : List Fl) (us : List Value) (h : us.length = l.length) (k : Nat) (hk : k ≤ l.length) : (cellsF l us).drop (k * 3) = cellsF (l.drop k) (us.drop k) := by
  have h1 := cellsF_append (l.take k) (l.drop k) (us.take k) (us.drop k) (by simp; omega)
  rw [List.take_append_drop, List.take_append_drop] at h1
  have h2 := cellsF_length (l.take k) (us.take k) (by simp; omega)
  rw [h1, List.drop_append_of_le_length (by rw [h2, List.length_take]; omega), List.drop_of_length_le (by rw [h2, List.length_take]; omega), List.nil_append]
theorem cellsF_set : ∀ (l : List Fl) (us : List Value) (k : Nat) (f : Fl) (u : Value), us.length = l.length → k < l.length →
    (((cellsF l us).set (k * 3) (.string ⟨f.name.toArray⟩)).set (k * 3 + 1) u).set (k * 3 + 2) (.int .i64 (f.synced : Int)) = cellsF (l.set k f) (us.set k u)
  | [], _, _, _, _, _, h => by simp at h
  | _ :: _, [], _, _, _, h, _ => by simp at h
  | g :: r, v :: us, 0, f, u, h, _ => rfl
  | g :: r, v :: us, k + 1, f, u, h, hk => by
    have := cellsF_set r us k f u (by simpa using h) (by simpa using hk)
    rw [List.set_cons_succ, List.set_cons_succ]
    show _ = .string ⟨g.name.toArray⟩ :: v :: .int .i64 (g.synced : Int) :: cellsF (r.set k f) (us.set k u)
    rw [← this, show (k + 1) * 3 = k * 3 + 1 + 1 + 1 by omega, show k * 3 + 1 + 1 + 1 + 2 = k * 3 + 2 + 1 + 1 + 1 by omega]
    rfl

/-- A row of bytes in a block of S. -/
def InS (S : Nat → Prop) (w : World) (u : Value) (l : List UInt8) : Prop := Own w 0 u l ∧ l.length ≤ 140737488355328 ∧ ∀ j, u.ownBlock = some j → S j
theorem InS.keep {S S' : Nat → Prop} {w w' : World} {u : Value} {l : List UInt8} (h : InS S w u l) (hk : ∀ j, u.ownBlock = some j → w'.heap[j]? = w.heap[j]?) (hS : ∀ k, k < w.heap.size → S k → S' k) : InS S' w' u l :=
  ⟨h.1.keep hk, h.2.1, fun j hj => by
    obtain ⟨cur, hc⟩ := h.1.heap hj
    exact hS j (block_lt hc) (h.2.2 j hj)⟩
theorem InS.step {S T S' : Nat → Prop} {w w' : World} {u : Value} {l : List UInt8} (h : InS S w u l) (hf : Fr T w w') (hd : ∀ k, k < w.heap.size → S k → ¬ T k) (hS : ∀ k, k < w.heap.size → S k → S' k) : InS S' w' u l :=
  h.keep (fun j hj => by
    obtain ⟨cur, hc⟩ := h.1.heap hj
    exact hf.block j (block_lt hc) (hd j (block_lt hc) (h.2.2 j hj))) hS
theorem InS.rd {S : Nat → Prop} {w : World} {u : Value} {l : List UInt8} (h : InS S w u l) : Rd w w.heap.size u l := h.1.rd h.2.1
theorem InS.own {S : Nat → Prop} {w : World} {base : Nat} {u : Value} {l : List UInt8} (h : Own w base u l) (hl : l.length ≤ 140737488355328) (hS : ∀ k, base ≤ k → S k) : InS S w u l := ⟨h.low, hl, fun k hk => hS k (h.block k hk)⟩
theorem InS.one {S : Nat → Prop} {w : World} {u : Value} {l : List UInt8} (h : InS S w u l) : u.oneCell' = true := by
  obtain ⟨p, cap, rfl, _⟩ := h.1.form
  rfl

structure RfAt (w : World) (S : Nat → Prop) (rb : Nat) (D : Dsk) (fv : Value) (us : List Value) : Prop where
  blk : w.heap[rb]? = some (.cells #[.int .i64 (D.size : Int), fv, .int .i64 (D.born : Int)] 57 (0, 0))
  row : w.ownsRow 0 73 3 fv D.files.length (cellsF D.files us)
  len : us.length = D.files.length
  bytes : ∀ (k : Nat) (f : Fl) (u : Value), D.files[k]? = some f → us[k]? = some u → InS S w u f.data
  le : ∀ f ∈ D.files, f.synced ≤ f.data.length
  srt : Srt D.files
  names : ∀ f ∈ D.files, f.name.length ≤ 64
  room : used D.files ≤ D.size
  size : D.size ≤ 1073741824
  inS : S rb
  inRow : ∀ k, fv.ownBlock = some k → S k
def Rf (w : World) (S : Nat → Prop) (rb : Nat) (D : Dsk) : Prop := ∃ fv us, RfAt w S rb D fv us
section
variable {w w' : World} {S T : Nat → Prop} {rb : Nat} {D : Dsk} {fv : Value} {us : List Value}
theorem RfAt.c0 (h : RfAt w S rb D fv us) : w.cell? ⟨rb, 0, none⟩ = some (.int .i64 (D.size : Int)) := cell_of h.blk rfl
theorem RfAt.c1 (h : RfAt w S rb D fv us) : w.cell? ⟨rb, 1, none⟩ = some fv := cell_of h.blk rfl
theorem RfAt.c2 (h : RfAt w S rb D fv us) : w.cell? ⟨rb, 2, none⟩ = some (.int .i64 (D.born : Int)) := cell_of h.blk rfl
theorem RfAt.fz (h : RfAt w S rb D fv us) (i : Nat) : w.frozen? ⟨rb, i, none⟩ = false := frozen_of h.blk
theorem RfAt.lt (h : RfAt w S rb D fv us) : rb < w.heap.size := block_lt h.blk
theorem RfAt.heap (h : RfAt w S rb D fv us) {k : Nat} (hk : fv.ownBlock = some k) : ∃ cur, w.heap[k]? = some (.cells cur 73 (0, 0)) := by
  rcases h.row.2 with ⟨rfl, _⟩ | ⟨g, cap, cur, rfl, _, hg, _⟩
  · cases hk
  · obtain rfl : g = k := by simpa [Value.ownBlock] using hk
    exact ⟨cur, hg⟩
/-- The slice's shape, and what is read at one place. -/
theorem RfAt.form (h : RfAt w S rb D fv us) : ∃ p cap, fv = .slice p D.files.length cap ∧ D.files.length ≤ cap ∧ cap ≤ 9223372036854775807 ∧
    ∀ k f, D.files[k]? = some f → ∃ g u, p = some ⟨g, 0, none⟩ ∧ w.cell? ⟨g, k * 3, none⟩ = some (.string ⟨f.name.toArray⟩) ∧ w.cell? ⟨g, k * 3 + 1, none⟩ = some u ∧ w.cell? ⟨g, k * 3 + 2, none⟩ = some (.int .i64 (f.synced : Int)) ∧ us[k]? = some u ∧ InS S w u f.data := by
  have hrow := h.row
  rcases h.row.2 with ⟨rfl, h0⟩ | ⟨g, cap, cur, rfl, _, hg, h1, h2, _⟩
  · refine ⟨none, 0, by rw [h0], by omega, by omega, fun k f hf => ?_⟩
    have := (List.getElem?_eq_some_iff.1 hf).1
    omega
  · refine ⟨_, cap, rfl, h1, by unfold maxLen at h2; exact h2, fun k f hf => ?_⟩
    have hk := (List.getElem?_eq_some_iff.1 hf).1
    have hu : us[k]? = some (us[k]'(by rw [h.len]; exact hk)) := List.getElem?_eq_getElem _
    obtain ⟨e1, e2, e3⟩ := cellsF_at D.files us k f _ hf hu
    exact ⟨g, _, rfl, (hrow.cellAt (k * 3) (by omega)).trans e1, (hrow.cellAt (k * 3 + 1) (by omega)).trans e2, (hrow.cellAt (k * 3 + 2) (by omega)).trans e3, hu, h.bytes k f _ hf hu⟩
theorem RfAt.step (h : RfAt w S rb D fv us) (hf : Fr T w w') (hd : ∀ k, k < w.heap.size → S k → ¬ T k) {S' : Nat → Prop} (hS : ∀ k, k < w.heap.size → S k → S' k) : RfAt w' S' rb D fv us := by
  refine ⟨hf.keep h.blk (hd _ h.lt h.inS), ⟨h.row.1, ?_⟩, h.len, fun k f u h1 h2 => (h.bytes k f u h1 h2).step hf hd hS, h.le, h.srt, h.names, h.room, h.size, hS _ h.lt h.inS, fun k hk => ?_⟩
  · rcases h.row.2 with hn | ⟨g, cap, cur, e, h1, hg, h3⟩
    · exact .inl hn
    · exact .inr ⟨g, cap, cur, e, h1, hf.keep hg (hd g (block_lt hg) (h.inRow g (by rw [e]; rfl))), h3⟩
  · obtain ⟨cur, hc⟩ := h.heap hk
    exact hS k (block_lt hc) (h.inRow k hk)
theorem Rf.step (h : Rf w S rb D) (hf : Fr T w w') (hd : ∀ k, k < w.heap.size → S k → ¬ T k) {S' : Nat → Prop} (hS : ∀ k, k < w.heap.size → S k → S' k) : Rf w' S' rb D := by
  obtain ⟨fv, us, h⟩ := h
  exact ⟨fv, us, h.step hf hd hS⟩
theorem Rf.mono (h : Rf w S rb D) {S' : Nat → Prop} (hS : ∀ k, k < w.heap.size → S k → S' k) : Rf w S' rb D := h.step (Fr.refl (fun _ => False) w) (fun _ _ _ hf => hf) hS
theorem Rf.after (h : Rf w S rb D) (hf : Below w.heap.size w w') : Rf w' S rb D := h.step (Fr.of_new hf (fun _ => False)) (fun _ _ _ hf => hf) (fun _ _ hs => hs)
theorem RfAt.after (h : RfAt w S rb D fv us) (hf : Below w.heap.size w w') : RfAt w' S rb D fv us := h.step (Fr.of_new hf (fun _ => False)) (fun _ _ _ hf => hf) (fun _ _ hs => hs)
end
end Go.Proofs.Ytlekffhacmdnnaa
