/-
  A net in memory: 'BagAt w S v ss': the value v is a bag of the texts ss, wherever it begins in its block; 'NtAt w S nb N gb ro bv': block nb of w is a net that is told by N; its rows lie in block gb, row f in block ro f, the bag of link (f, t) is the slice bv f t; all its blocks are in the set S. What changes a bag.
-/
import Derived.Test.YtiffoafjgcjgoaaBlk
import Derived.Test.YtiffoafjgcjgoaaNpl
import Derived.ArgAppend
namespace Go.Proofs.Ytiffoafjgcjgoaa
open Go.RowKit

/-! ### many cells set -/
def setL (cur : Array Value) : Nat → List Value → Array Value
  | _, [] => cur
  | o, v :: r => setL (cur.setIfInBounds o v) (o + 1) r
theorem setL_size : ∀ (vs : List Value) (o : Nat) (cur : Array Value), (setL cur o vs).size = cur.size
  | [], _, _ => rfl
  | v :: r, o, cur => by
    show (setL (cur.setIfInBounds o v) (o + 1) r).size = _
    rw [setL_size r, Array.size_setIfInBounds]
theorem setL_out : ∀ (vs : List Value) (o : Nat) (cur : Array Value) (i : Nat), i < o ∨ o + vs.length ≤ i → (setL cur o vs)[i]? = cur[i]?
  | [], _, _, _, _ => rfl
  | v :: r, o, cur, i, h => by
    show (setL (cur.setIfInBounds o v) (o + 1) r)[i]? = _
    rw [List.length_cons] at h
    rw [setL_out r (o + 1) _ i (by omega), Array.getElem?_setIfInBounds_ne (by omega)]
theorem setL_in : ∀ (vs : List Value) (o : Nat) (cur : Array Value) (j : Nat) (x : Value), vs[j]? = some x → o + j < cur.size → (setL cur o vs)[o + j]? = some x
  | [], _, _, _, _, h, _ => by simp at h
  | v :: r, o, cur, 0, x, h, hs => by
    obtain rfl : v = x := by simpa using h
    show (setL (cur.setIfInBounds o v) (o + 1) r)[o + 0]? = _
    rw [setL_out r (o + 1) _ (o + 0) (by omega), Nat.add_zero, Array.getElem?_setIfInBounds_self, if_pos (by omega)]
  | v :: r, o, cur, j + 1, x, h, hs => by
    show (setL (cur.setIfInBounds o v) (o + 1) r)[o + (j + 1)]? = _
    rw [show o + (j + 1) = o + 1 + j by omega]
    exact setL_in r (o + 1) _ j x (by simpa using h) (by rw [Array.size_setIfInBounds]; omega)
theorem setCells_same : ∀ (vs : List Value) (o : Nat) (w : World) {b : Nat} {cur : Array Value} {t : TypeId} {z : Nat × Nat}, w.heap[b]? = some (.cells cur t z) → (w.setCells b o vs).heap[b]? = some (.cells (setL cur o vs) t z)
  | [], _, _, _, _, _, _, h => h
  | v :: r, o, w, b, _, _, _, h => setCells_same r (o + 1) (w.setCell ⟨b, o, none⟩ v) (setCell_same h v)
theorem setCells_fr : ∀ (vs : List Value) (o : Nat) (w : World) (b : Nat) (S : Nat → Prop), S b → Fr S w (w.setCells b o vs)
  | [], _, w, _, S, _ => Fr.refl S w
  | v :: r, o, w, b, S, h => (Fr.setCell S w (p := ⟨b, o, none⟩) h v).then (setCells_fr r (o + 1) _ b S h)
theorem setCells_size (vs : List Value) (o : Nat) (w : World) (b : Nat) : (w.setCells b o vs).heap.size = w.heap.size := by
  induction vs generalizing o w with
  | nil => rfl
  | cons v r ih => exact (ih (o + 1) _).trans (by simp [World.setCell])

/-! ### a bag -/
def BagAt (w : World) (S : Nat → Prop) (v : Value) (ss : List (List UInt8)) : Prop :=
  (v = .slice none 0 0 ∧ ss = []) ∨ ∃ g off cap cur, v = .slice (some ⟨g, off, none⟩) ss.length cap ∧ w.heap[g]? = some (.cells cur 9 (0, 0)) ∧ S g ∧ ss.length ≤ cap ∧ off + cap ≤ cur.size ∧ cap ≤ maxLen ∧
    ∀ i s, ss[i]? = some s → cur[off + i]? = some (.string ⟨s.toArray⟩)
section
variable {w w' : World} {S T : Nat → Prop} {v : Value} {ss : List (List UInt8)}
theorem BagAt.shape (h : BagAt w S v ss) : ∃ p cap, v = .slice p ss.length cap ∧ ss.length ≤ cap ∧ cap ≤ 9223372036854775807 ∧ ∀ i s, ss[i]? = some s → ∃ g off, p = some ⟨g, off, none⟩ ∧ w.cell? ⟨g, off + i, none⟩ = some (.string ⟨s.toArray⟩) := by
  rcases h with ⟨rfl, rfl⟩ | ⟨g, off, cap, cur, rfl, hg, _, hc, _, hm, hat⟩
  · exact ⟨none, 0, rfl, Nat.le_refl _, by omega, fun i s h => by simp at h⟩
  · exact ⟨_, cap, rfl, hc, by unfold maxLen at hm; exact hm, fun i s h => ⟨g, off, rfl, cell_of hg (hat i s h)⟩⟩
theorem BagAt.heap (h : BagAt w S v ss) {k : Nat} (hk : v.ownBlock = some k) : ∃ cur, w.heap[k]? = some (.cells cur 9 (0, 0)) ∧ S k := by
  rcases h with ⟨rfl, _⟩ | ⟨g, off, cap, cur, rfl, hg, hs, _⟩
  · cases hk
  · obtain rfl : g = k := by simpa [Value.ownBlock] using hk
    exact ⟨cur, hg, hs⟩
theorem BagAt.lt (h : BagAt w S v ss) {k : Nat} (hk : v.ownBlock = some k) : k < w.heap.size := by
  obtain ⟨_, h, _⟩ := h.heap hk
  exact block_lt h
theorem BagAt.keep (h : BagAt w S v ss) (hk : ∀ k, v.ownBlock = some k → w'.heap[k]? = w.heap[k]?) (hT : ∀ k, k < w.heap.size → S k → T k) : BagAt w' T v ss := by
  rcases h with h | ⟨g, off, cap, cur, rfl, hg, hs, h1, h2, h3, h4⟩
  · exact .inl h
  · exact .inr ⟨g, off, cap, cur, rfl, (hk g rfl).trans hg, hT g (block_lt hg) hs, h1, h2, h3, h4⟩
theorem BagAt.step (h : BagAt w S v ss) (hf : Fr T w w') (hd : ∀ k, k < w.heap.size → S k → ¬ T k) {S' : Nat → Prop} (hS : ∀ k, k < w.heap.size → S k → S' k) : BagAt w' S' v ss :=
  h.keep (fun k hk => by
    obtain ⟨_, hc, hs⟩ := h.heap hk
    exact hf.block k (block_lt hc) (hd k (block_lt hc) hs)) hS
theorem BagAt.nil (w : World) (S : Nat → Prop) : BagAt w S (.slice none 0 0) [] := .inl ⟨rfl, rfl⟩

theorem infoStr : (Try.prog.info? 9).map (fun i => (i.zero, i.size, i.bytes)) = some (some (.string ⟨#[]⟩), 1, 16) := by kernel_rfl
/-- One text appended to a bag. -/
theorem wpList_append_bag {ops : Array Oper} {rest : List Oper} {o : Oper} {a : Act} {Q : Exit → Act → World → Prop} (hgd : o.guard = none) (s x : Operand)
    (ho : o.op = .call { callee := .builtin .append, args := #[s, x], argTypes := #[71, 71] })
    (h : BagAt w S v ss) (hs : a.eval s = v) (ad : Addr) (c : Nat) (y : List UInt8) (hx : a.eval x = .slice (some ad) 1 c) (hy : w.cell? ad = some (.string ⟨y.toArray⟩)) (hlen : ss.length ≤ 65536)
    (hK : ∀ v' w', BagAt w' (More S w.heap.size) v' (ss ++ [y]) → Fr (fun k => v.ownBlock = some k) w w' → (v'.ownBlock = v.ownBlock ∨ ∀ k, v'.ownBlock = some k → w.heap.size ≤ k) → wpList Try.prog ops Q rest (a.put o.dst v') w') : wpList Try.prog ops Q (o :: rest) a w := by
  obtain ⟨i0, hi, hz0, hz1, hz2⟩ := info_parts infoStr
  have hnews : ∀ j u, [(.string ⟨y.toArray⟩ : Value)][j]? = some u → w.cell? (ad.add j) = some u := by
    intro j u hu
    cases j with
    | zero =>
      have e : u = .string ⟨y.toArray⟩ := by simpa using hu.symm
      rw [e, show ad.add 0 = ad by cases ad with | mk b off sp => cases sp <;> simp [Addr.add]]
      exact hy
    | succ j => simp at hu
  have hone : ∀ u ∈ [(.string ⟨y.toArray⟩ : Value)], u.oneCell' = true := by
    intro u hu
    obtain rfl : u = _ := by simpa using hu
    rfl
  have hnew : ∀ v' w', w'.ownsRow w.heap.size 9 1 v' (ss.length + 1) (ss.map (fun s => (.string ⟨s.toArray⟩ : Value)) ++ [.string ⟨y.toArray⟩]) → w.grownBy w' none → wpList Try.prog ops Q rest (a.put o.dst v') w' := by
    intro v' w' hown hg
    refine hK v' w' ?_ (Fr.grown hg (fun k hk => by cases hk)) (.inr fun k hk => (World.ownsRow.lt hown k hk).1)
    rcases hown.2 with ⟨_, h0⟩ | ⟨g, cap, cur, rfl, hb, hg2, hn, hc, hsz, ht⟩
    · omega
    · refine .inr ⟨g, 0, cap, cur, by simp, hg2, .inr hb, by simpa using hn, by omega, hc, fun i s hi => ?_⟩
      have hi2 : i < ss.length + 1 := by
        have := (List.getElem?_eq_some_iff.1 hi).1
        simpa using this
      have h1 : (cur.toList.take ((ss.length + 1) * 1))[i]? = some (.string ⟨s.toArray⟩) := by
        rw [ht, ← List.map_singleton (f := fun s : List UInt8 => (.string ⟨s.toArray⟩ : Value)) (a := y), ← List.map_append, List.getElem?_map, hi]
        rfl
      rw [List.getElem?_take, if_pos (by omega)] at h1
      rw [Nat.zero_add]
      simpa using h1
  rcases h with ⟨rfl, rfl⟩ | ⟨g, off, cap, cur, rfl, hg, hS, h1, h2, h3, h4⟩
  · refine wpList_append_grows w hgd s x _ ho 9 i0 (.string ⟨#[]⟩) 1 16 Try.underlying71 hi hz0 hz1 hz2 rfl (by decide) none 0 0 [] hs (fun _ => ⟨rfl, rfl⟩) rfl (fun b e => by cases e) ad 1 c [.string ⟨y.toArray⟩] hx rfl hnews hone (by decide) (by unfold maxLen; omega) (by omega) ?_
    exact hnew
  · refine wpList_append_arg w hgd s x _ ho 9 i0 (.string ⟨#[]⟩) 1 16 Try.underlying71 hi hz0 hz1 hz2 rfl (by decide) g off ss.length cap (ss.map (fun s => (.string ⟨s.toArray⟩ : Value))) hs (by simp) ?_ ad 1 c [.string ⟨y.toArray⟩] hx rfl hnews hone ?_ (by unfold maxLen; omega) (by omega) ?_ ?_
    · intro j u hu
      rw [List.getElem?_map] at hu
      obtain ⟨s, hs1, rfl⟩ := Option.map_eq_some_iff.1 hu
      exact cell_of hg (h4 j s hs1)
    · intro hroom j hj
      obtain rfl : j = 0 := by simpa using hj
      have : off + ss.length < cur.size := by omega
      refine ⟨?_, frozen_of hg⟩
      rw [show off + ss.length * 1 + 0 = off + ss.length by omega, cell_of hg (Array.getElem?_eq_getElem this)]
      rfl
    · intro hroom
      rw [Nat.mul_one]
      refine hK _ _ ?_ (setCells_fr _ _ _ _ _ rfl) (.inl rfl)
      refine .inr ⟨g, off, cap, _, by simp, setCells_same _ _ _ hg, .inl hS, by simpa using hroom, by rw [setL_size]; exact h2, h3, fun i s hi => ?_⟩
      by_cases hlt : i < ss.length
      · rw [setL_out _ _ _ _ (by omega)]
        rw [List.getElem?_append_left hlt] at hi
        exact h4 i s hi
      · rw [List.getElem?_append_right (by omega)] at hi
        obtain ⟨h5, h6⟩ : i - ss.length = 0 ∧ y = s := by
          cases hq : i - ss.length with
          | zero => rw [hq] at hi; exact ⟨rfl, by simpa using hi⟩
          | succ n => rw [hq] at hi; simp at hi
        subst h6
        have := setL_in [(.string ⟨y.toArray⟩ : Value)] (off + ss.length) cur 0 _ rfl (by omega)
        rw [show off + i = off + ss.length + 0 by omega]
        exact this
    · exact fun _ => hnew
end

/-! ### the net -/
structure NtAt (w : World) (S : Nat → Prop) (nb : Nat) (N : PNet) (gb : Nat) (ro : Nat → Nat) (bv : Nat → Nat → Value) : Prop where
  blk : w.heap[nb]? = some (.cells #[.int .i64 (N.bound : Int), .int .i64 (N.now : Int), .slice (some ⟨gb, 0, none⟩) N.nodes N.nodes] 50 (0, 0))
  grid : ∃ cur, w.heap[gb]? = some (.cells cur 48 (0, 0)) ∧ ∀ f, f < N.nodes → cur[f]? = some (.slice (some ⟨ro f, 0, none⟩) N.nodes N.nodes)
  rows : ∀ f, f < N.nodes → ∃ cur, w.heap[ro f]? = some (.cells cur 71 (0, 0)) ∧ ∀ t, t < N.nodes → cur[t]? = some (bv f t)
  bags : ∀ f t, f < N.nodes → t < N.nodes → BagAt w S (bv f t) (bag N.L f t)
  rapart : ∀ f f', f < N.nodes → f' < N.nodes → ro f = ro f' → f = f'
  bapart : ∀ f t f' t' k, f < N.nodes → t < N.nodes → f' < N.nodes → t' < N.nodes → (bv f t).ownBlock = some k → (bv f' t').ownBlock = some k → f = f' ∧ t = t'
  wf : Wf N
  inN : S nb
  inG : S gb
  inR : ∀ f, f < N.nodes → S (ro f)
def Nt (w : World) (S : Nat → Prop) (nb : Nat) (N : PNet) : Prop := ∃ gb ro bv, NtAt w S nb N gb ro bv
def upd2 (bv : Nat → Nat → Value) (f t : Nat) (v : Value) : Nat → Nat → Value := fun f' t' => if f' = f ∧ t' = t then v else bv f' t'
theorem upd2_same (bv : Nat → Nat → Value) (f t : Nat) (v : Value) : upd2 bv f t v f t = v := by simp [upd2]
theorem upd2_other {bv : Nat → Nat → Value} {f t : Nat} {v : Value} {f' t' : Nat} (h : ¬ (f' = f ∧ t' = t)) : upd2 bv f t v f' t' = bv f' t' := by simp [upd2, h]
section
variable {w w' : World} {S T : Nat → Prop} {nb : Nat} {N : PNet} {gb : Nat} {ro : Nat → Nat} {bv : Nat → Nat → Value}
theorem NtAt.c0 (h : NtAt w S nb N gb ro bv) : w.cell? ⟨nb, 0, none⟩ = some (.int .i64 (N.bound : Int)) := cell_of h.blk rfl
theorem NtAt.c1 (h : NtAt w S nb N gb ro bv) : w.cell? ⟨nb, 1, none⟩ = some (.int .i64 (N.now : Int)) := cell_of h.blk rfl
theorem NtAt.c2 (h : NtAt w S nb N gb ro bv) : w.cell? ⟨nb, 2, none⟩ = some (.slice (some ⟨gb, 0, none⟩) N.nodes N.nodes) := cell_of h.blk rfl
theorem NtAt.fz (h : NtAt w S nb N gb ro bv) (i : Nat) : w.frozen? ⟨nb, i, none⟩ = false := frozen_of h.blk
theorem NtAt.lt (h : NtAt w S nb N gb ro bv) : nb < w.heap.size := block_lt h.blk
theorem Nt.lt (h : Nt w S nb N) : nb < w.heap.size := by
  obtain ⟨_, _, _, h⟩ := h
  exact h.lt
theorem Nt.wf (h : Nt w S nb N) : Wf N := by
  obtain ⟨_, _, _, h⟩ := h
  exact h.wf
theorem Nt.inN (h : Nt w S nb N) : S nb := by
  obtain ⟨_, _, _, h⟩ := h
  exact h.inN
theorem NtAt.gridAt (h : NtAt w S nb N gb ro bv) {f : Nat} (hf : f < N.nodes) : w.cell? ⟨gb, f, none⟩ = some (.slice (some ⟨ro f, 0, none⟩) N.nodes N.nodes) := by
  obtain ⟨cur, hc, h1⟩ := h.grid
  exact cell_of hc (h1 f hf)
theorem NtAt.rowAt (h : NtAt w S nb N gb ro bv) {f t : Nat} (hf : f < N.nodes) (ht : t < N.nodes) : w.cell? ⟨ro f, t, none⟩ = some (bv f t) := by
  obtain ⟨cur, hc, h1⟩ := h.rows f hf
  exact cell_of hc (h1 t ht)
theorem NtAt.rowFz (h : NtAt w S nb N gb ro bv) {f : Nat} (hf : f < N.nodes) (t : Nat) : w.frozen? ⟨ro f, t, none⟩ = false := by
  obtain ⟨cur, hc, _⟩ := h.rows f hf
  exact frozen_of hc
theorem NtAt.rowLt (h : NtAt w S nb N gb ro bv) {f : Nat} (hf : f < N.nodes) : ro f < w.heap.size := by
  obtain ⟨cur, hc, _⟩ := h.rows f hf
  exact block_lt hc
theorem NtAt.step (h : NtAt w S nb N gb ro bv) (hf : Fr T w w') (hd : ∀ k, k < w.heap.size → S k → ¬ T k) {S' : Nat → Prop} (hS : ∀ k, k < w.heap.size → S k → S' k) : NtAt w' S' nb N gb ro bv := by
  refine ⟨hf.keep h.blk (hd _ h.lt h.inN), ?_, fun f hlt => ?_, fun f t h1 h2 => (h.bags f t h1 h2).step hf hd hS, h.rapart, h.bapart, h.wf, hS _ h.lt h.inN, ?_, fun f hlt => hS _ (h.rowLt hlt) (h.inR f hlt)⟩
  · obtain ⟨cur, hc, h1⟩ := h.grid
    exact ⟨cur, hf.keep hc (hd _ (block_lt hc) h.inG), h1⟩
  · obtain ⟨cur, hc, h1⟩ := h.rows f hlt
    exact ⟨cur, hf.keep hc (hd _ (block_lt hc) (h.inR f hlt)), h1⟩
  · obtain ⟨cur, hc, h1⟩ := h.grid
    exact hS _ (block_lt hc) h.inG
theorem Nt.step (h : Nt w S nb N) (hf : Fr T w w') (hd : ∀ k, k < w.heap.size → S k → ¬ T k) {S' : Nat → Prop} (hS : ∀ k, k < w.heap.size → S k → S' k) : Nt w' S' nb N := by
  obtain ⟨gb, ro, bv, h⟩ := h
  exact ⟨gb, ro, bv, h.step hf hd hS⟩
theorem Nt.mono (h : Nt w S nb N) {S' : Nat → Prop} (hS : ∀ k, k < w.heap.size → S k → S' k) : Nt w S' nb N := h.step (Fr.refl (fun _ => False) w) (fun _ _ _ hf => hf) hS
theorem NtAt.after (h : NtAt w S nb N gb ro bv) (hf : Below w.heap.size w w') : NtAt w' S nb N gb ro bv := h.step (Fr.of_new hf (fun _ => False)) (fun _ _ _ hf => hf) (fun _ _ hs => hs)
theorem Nt.after (h : Nt w S nb N) (hf : Below w.heap.size w w') : Nt w' S nb N := h.step (Fr.of_new hf (fun _ => False)) (fun _ _ _ hf => hf) (fun _ _ hs => hs)
theorem Nt.drewN (h : Nt w S nb N) (n : Nat) : Nt (w.drewN n) S nb N := h.after (below_drewN (Below.refl _ _) n)
theorem NtAt.drewN (h : NtAt w S nb N gb ro bv) (n : Nat) : NtAt (w.drewN n) S nb N gb ro bv := h.after (below_drewN (Below.refl _ _) n)
theorem Nt.weak (h : Nt w S nb N) (B : Nat) : Nt w (More S B) nb N := h.mono fun _ _ hs => .inl hs

/-- One bag is another one. -/
theorem NtAt.setBag (h : NtAt w S nb N gb ro bv) {f t : Nat} (hf : f < N.nodes) (ht : t < N.nodes) {N' : PNet} {v' : Value}
    (hfr : Fr (fun k => k = ro f ∨ (bv f t).ownBlock = some k) w w')
    (hrow : ∀ cur, w.heap[ro f]? = some (.cells cur 71 (0, 0)) → w'.heap[ro f]? = some (.cells (cur.setIfInBounds t v') 71 (0, 0)))
    (hnew : BagAt w' T v' (bag N'.L f t)) (hv : v'.ownBlock = (bv f t).ownBlock ∨ ∀ k, v'.ownBlock = some k → w.heap.size ≤ k) (hT : ∀ k, k < w.heap.size → S k → T k)
    (hn1 : N'.nodes = N.nodes) (hn2 : N'.bound = N.bound) (hn3 : N'.now = N.now) (hwf : Wf N') (hoth : ∀ f' t', ¬ (f' = f ∧ t' = t) → bag N'.L f' t' = bag N.L f' t') :
    NtAt w' T nb N' gb ro (upd2 bv f t v') := by
  have hbag := h.bags f t hf ht
  obtain ⟨rcur, hrc, hrat⟩ := h.rows f hf
  have hkeep : ∀ {k : Nat} {c : Array Value} {ty : TypeId} {z : Nat × Nat}, w.heap[k]? = some (.cells c ty z) → ty ≠ 71 → ty ≠ 9 → w'.heap[k]? = some (.cells c ty z) := by
    intro k c ty z hk h1 h2
    refine hfr.keep hk ?_
    rintro (e | e)
    · exact kind_ne hk hrc h1 e
    · obtain ⟨c2, hc2, _⟩ := hbag.heap e
      exact kind_ne hk hc2 h2 rfl
  refine ⟨?_, ?_, fun f' hf' => ?_, fun f' t' hf' ht' => ?_, fun a b ha hb => h.rapart a b (hn1 ▸ ha) (hn1 ▸ hb), fun f1 t1 f2 t2 k a1 a2 a3 a4 e1 e2 => ?_, hwf, hT _ h.lt h.inN, ?_, fun f' hf' => hT _ (h.rowLt (hn1 ▸ hf')) (h.inR f' (hn1 ▸ hf'))⟩
  · rw [hn1, hn2, hn3]
    exact hkeep h.blk (by decide) (by decide)
  · obtain ⟨cur, hc, h1⟩ := h.grid
    rw [hn1]
    exact ⟨cur, hkeep hc (by decide) (by decide), h1⟩
  · rw [hn1] at hf' ⊢
    by_cases he : f' = f
    · subst he
      refine ⟨_, hrow _ hrc, fun t' ht' => ?_⟩
      by_cases he2 : t = t'
      · subst he2
        rw [upd2_same, Array.getElem?_setIfInBounds_self, if_pos (Array.getElem?_eq_some_iff.1 (hrat t ht)).1]
      · rw [upd2_other (fun e => he2 e.2.symm), Array.getElem?_setIfInBounds_ne he2]
        exact hrat t' ht'
    · obtain ⟨cur, hc, h1⟩ := h.rows f' hf'
      refine ⟨cur, hfr.keep hc ?_, fun t' ht' => by rw [upd2_other (fun e => he e.1)]; exact h1 t' ht'⟩
      rintro (e | e)
      · exact he (h.rapart _ _ hf' hf e)
      · obtain ⟨c2, hc2, _⟩ := hbag.heap e
        exact kind_ne hc hc2 (by decide) rfl
  · rw [hn1] at hf' ht'
    by_cases he : f' = f ∧ t' = t
    · obtain ⟨rfl, rfl⟩ := he
      rw [upd2_same]
      exact hnew
    · rw [upd2_other he, hoth f' t' he]
      have hb := h.bags f' t' hf' ht'
      refine hb.keep (fun k hk => ?_) hT
      obtain ⟨c2, hc2, _⟩ := hb.heap hk
      refine hfr.block k (block_lt hc2) ?_
      rintro (e | e)
      · exact kind_ne hc2 hrc (by decide) e
      · exact he (h.bapart _ _ _ _ k hf' ht' hf ht hk e)
  · rw [hn1] at a1 a2 a3 a4
    have hold : ∀ f1 t1, f1 < N.nodes → t1 < N.nodes → ¬ (f1 = f ∧ t1 = t) → (bv f1 t1).ownBlock = some k → v'.ownBlock = some k → False := by
      intro f1 t1 b1 b2 hne hk hk2
      rcases hv with hv | hv
      · rw [hv] at hk2
        exact hne (h.bapart _ _ _ _ k b1 b2 hf ht hk hk2)
      · have := hv k hk2
        have := (h.bags f1 t1 b1 b2).lt hk
        omega
    by_cases he1 : f1 = f ∧ t1 = t
    · by_cases he2 : f2 = f ∧ t2 = t
      · exact ⟨he1.1.trans he2.1.symm, he1.2.trans he2.2.symm⟩
      · rw [upd2_other he2] at e2
        obtain ⟨rfl, rfl⟩ := he1
        rw [upd2_same] at e1
        exact (hold f2 t2 a3 a4 he2 e2 e1).elim
    · rw [upd2_other he1] at e1
      by_cases he2 : f2 = f ∧ t2 = t
      · obtain ⟨rfl, rfl⟩ := he2
        rw [upd2_same] at e2
        exact (hold f1 t1 a1 a2 he1 e1 e2).elim
      · rw [upd2_other he2] at e2
        exact h.bapart _ _ _ _ k a1 a2 a3 a4 e1 e2
  · obtain ⟨cur, hc, h1⟩ := h.grid
    exact hT _ (block_lt hc) h.inG
end
end Go.Proofs.Ytiffoafjgcjgoaa
