/-
  The walk over glacierlaw6.MergeParts.
-/
import Derived.Test.YtaomneenflkpeaaMhF
import Derived.Test.YtaomneenflkpeaaMhG
namespace Go.Proofs.Ytaomneenflkpeaa
open Go.RowKit

/-- Seven slices, as an array holds them. -/
def svnC (vs : Nat → Value) : Array Value := #[vs 0, vs 1, vs 2, vs 3, vs 4, vs 5, vs 6]
theorem svnC_is (vs : Nat → Value) : svnC vs = ((List.range 7).map vs).toArray := rfl
theorem svnC_at (vs : Nat → Value) {n : Nat} (h : n < 7) : (svnC vs)[n]? = some (vs n) := by
  rw [svnC_is, List.getElem?_toArray, List.getElem?_map, List.getElem?_range h]; rfl
theorem svnC_set (vs : Nat → Value) {n : Nat} (h : n < 7) (v : Value) : (svnC vs).setIfInBounds n v = svnC fun j => if j = n then v else vs j := by
  match n, h with
  | 0, _ => rfl
  | 1, _ => rfl
  | 2, _ => rfl
  | 3, _ => rfl
  | 4, _ => rfl
  | 5, _ => rfl
  | 6, _ => rfl
theorem ix7 (W : World) (ab n : Nat) (h : n < 7) : (Instr.indexAt 45 (.pointer (some ⟨ab, 0, none⟩)) (.int .i64 (n : Int))).run Try.prog W = .ok (.pointer (some ⟨ab, n, none⟩)) W := by
  have hl : Try.prog.arrayLen 45 = 7 := by simp [Program.arrayLen, Try.underlying45]
  have he : Try.prog.elem 45 = 22 := by simp [Program.elem, Try.underlying45]
  have hs : (Go.sizeOf 22).run Try.prog W = .ok 1 W := by kernel_rfl
  have h0 : Try.prog.underlying 45 = some (.array (Try.prog.arrayLen 45) (Try.prog.elem 45)) := by rw [hl, he]; exact Try.underlying45
  have h1 := run_indexAt_array (P := Try.prog) (w := W) 45 ⟨ab, 0, none⟩ .i64 (n : Int) h0
  rw [hl, if_pos (by omega), he, hs] at h1
  rw [h1]
  simp [Result.andThen, Addr.add]
  omega
structure PrtM (w : World) (B ab : Nat) (f : Nat → Nat) (l : List Ent) (us : List Value) (k : Nat) (W : World) (vs : Nat → Value) : Prop where
  blk : W.heap[ab]? = some (.cells (svnC vs) 45 (0, 0))
  hB : B ≤ ab
  row : ∀ j, W.ownsRow B 30 4 (vs j) (prtL f l k j).length (cellsE (prtL f l k j) (prtL f us k j))
  ne : ∀ i j, i ≠ j → ∀ b, (vs i).ownBlock = some b → (vs j).ownBlock ≠ some b
  low : Below B w W
theorem PrtM.start {w W X : World} {B : Nat} (f : Nat → Nat) (l : List Ent) (us : List Value) (hX : W.alloc (.cells #[.slice none 0 0, .slice none 0 0, .slice none 0 0, .slice none 0 0, .slice none 0 0, .slice none 0 0, .slice none 0 0] 45) = X) (hb : Below B w W) (hB : B ≤ W.heap.size) :
    PrtM w B W.heap.size f l us 0 X fun _ => .slice none 0 0 := by
  subst hX
  exact ⟨heap_alloc_new W _, hB, fun j => World.ownsRow_nil _ _ _ _, (fun i j _ b h => by cases h), hb.alloc hB _⟩
theorem PrtM.put {w W X w4 : World} {B ab k n : Nat} {f : Nat → Nat} {l : List Ent} {us : List Value} {vs : Nat → Value} {v' : Value} {x : Ent} {u : Value} (h : PrtM w B ab f l us k W vs) (hn : f k = n) (hn7 : n < 7) (hx : l[k]? = some x) (hu : us[k]? = some u) (hlen : us.length = l.length) (hX : Below W.heap.size W X)
    (ho : w4.ownsRow B 30 4 v' ((prtL f l k n).length + 1) (cellsE (prtL f l k n) (prtL f us k n) ++ cellsE [x] [u])) (hg : X.grownBy w4 (vs n).ownBlock) (ha : v'.ownBlock = (vs n).ownBlock ∨ v'.ownBlock = some X.heap.size) :
    w4.heap[ab]? = some (.cells (svnC vs) 45 (0, 0)) ∧ PrtM w B ab f l us (k + 1) (w4.setCell ⟨ab, n, none⟩ v') fun j => if j = n then v' else vs j := by
  have hXb : X.heap[ab]? = some (.cells (svnC vs) 45 (0, 0)) := (hX.block ab (block_lt h.blk)).trans h.blk
  have hrX : ∀ j, X.ownsRow B 30 4 (vs j) (prtL f l k j).length (cellsE (prtL f l k j) (prtL f us k j)) := fun j => row_keep (h.row j) fun b hb => hX.block b (row_lt (h.row j) b hb)
  have h4 : w4.heap[ab]? = some (.cells (svnC vs) 45 (0, 0)) := (hg.block ab (block_lt hXb) (fun e => by
    obtain ⟨cur, hc⟩ := row_heap (hrX n) e.symm
    exact kind_ne hXb hc (by decide) rfl)).trans hXb
  have hBX : B ≤ X.heap.size := Nat.le_trans h.hB (Nat.le_of_lt (block_lt hXb))
  have hkl : k < l.length := (List.getElem?_eq_some_iff.1 hx).1
  have hxk : l[k] = x := (List.getElem?_eq_some_iff.1 hx).2
  have huk : us[k]'(by omega) = u := (List.getElem?_eq_some_iff.1 hu).2
  have rk : ∀ {E : TypeId} {s : Nat} {v : Value} {m : Nat} {xs : List Value}, w4.ownsRow B E s v m xs → E ≠ 45 → (w4.setCell ⟨ab, n, none⟩ v').ownsRow B E s v m xs := fun hr hE => row_keep hr fun b hb => by
    obtain ⟨cur, hc⟩ := row_heap hr hb
    exact setCell_other (kind_ne hc h4 hE) _
  refine ⟨h4, ⟨?_, h.hB, fun j => ?_, fun i j hij b hb => ?_, ?_⟩⟩
  · have := setCell_same (off := n) h4 v'
    rw [svnC_set vs hn7] at this
    exact this
  · by_cases hj : j = n
    · subst hj
      have e1 : prtL f l (k + 1) j = prtL f l k j ++ [x] := by rw [← hn, prtL_at f l k hkl, hxk]
      have e2 : prtL f us (k + 1) j = prtL f us k j ++ [u] := by rw [← hn, prtL_at f us k (by omega), huk]
      rw [if_pos rfl, e1, e2, cellsE_append _ _ _ _ (prtL_two f l us hlen k j), List.length_append]
      exact rk ho (by decide)
    · rw [if_neg hj, prtL_ne f l k j (by omega), prtL_ne f us k j (by omega)]
      refine rk (row_keep (hrX j) fun b hb => ?_) (by decide)
      exact hg.block b (row_lt (hrX j) b hb) (fun e => h.ne j n hj b hb e.symm)
  · have key : ∀ m, m ≠ n → ∀ b, v'.ownBlock = some b → (vs m).ownBlock ≠ some b := fun m hm b hv hq => by
      rcases ha with ha | ha
      · rw [ha] at hv
        exact h.ne m n hm b hq hv
      · rw [ha] at hv
        have := row_lt (h.row m) b hq
        have := hX.size
        have := Option.some.inj hv
        omega
    by_cases hi : i = n
    · subst hi
      rw [if_pos rfl] at hb
      rw [if_neg (Ne.symm hij)]
      exact key j (Ne.symm hij) b hb
    · rw [if_neg hi] at hb
      by_cases hj : j = n
      · subst hj
        rw [if_pos rfl]
        exact fun e => key i hi b e hb
      · rw [if_neg hj]
        exact h.ne i j hij b hb
  · have h1 : Below B w X := h.low.trans (hX.mono (Nat.le_trans h.hB (Nat.le_of_lt (block_lt h.blk))))
    exact (h1.grown hg hBX (row_low (hrX n))).setCell h.hB _
theorem PrtM.en {w W : World} {B ab k : Nat} {f : Nat → Nat} {l : List Ent} {us : List Value} {vs : Nat → Value} {F : Nat → Prop} (h : PrtM w B ab f l us k W vs) (hlen : us.length = l.length) (hBw : B = w.heap.size) (hby : ∀ (i : Nat) (e : Ent) (u : Value), l[i]? = some e → us[i]? = some u → By w F u e.val) (hl : k ≤ 1048576) (j : Nat) :
    En W (fun _ => True) (vs j) (prtL f l k j) := by
  have hk := prtL_len f l k j
  refine ⟨prtL f us k j, prtL_two f l us hlen k j, Cl.of_own (h.row j) (by omega) (fun _ _ => trivial) (cellsE_length _ _ (prtL_two f l us hlen k j)), fun m e u h1 h2 => ?_⟩
  obtain ⟨i, a1, a2⟩ := prtL_pair f l us hlen k j m e u h1 h2
  subst hBw
  exact ((hby i e u a1 a2).below h.low).mono fun _ _ _ => trivial
/-- The place of the k-th. -/
def plc7 (ps : List Int) (k : Nat) : Nat := match ps[k]? with
  | some p => (p.tmod 7).natAbs
  | none => 0
theorem plc7_lt (ps : List Int) (k : Nat) : plc7 ps k < 7 := by
  unfold plc7
  split
  · rename_i p _
    rw [Int.natAbs_tmod]
    exact Nat.mod_lt _ (by decide)
  · omega
theorem mg_seven (w : World) (v : Value) (ls : List (List Ent)) (h : Els w (fun _ => True) v ls) (hr : ∀ l ∈ ls, rightE l = true) (hf : ∀ l ∈ ls, ∀ x ∈ l, FitE x) (h7 : ls.length = 7) (hM : ∀ l ∈ ls, l.length ≤ 1000) :
    Calls Try.prog 18 #[v] w fun r w' => ∃ p c, r = .returned (.tuple #[.slice p (mrgL ls).length c, .int .i64 0]) ∧ En w' (fun _ => True) (.slice p (mrgL ls).length c) (mrgL ls) ∧ Below w.heap.size w w' :=
  (mg_merge w _ v ls h hf (by omega) 1000 hM (by omega)).mono fun r w' ⟨hb, h⟩ => h.elim (fun ⟨_, u, h1, h2⟩ => by
    obtain ⟨p, c, rfl, _⟩ := h2.form
    exact ⟨p, c, h1, h2.mono fun _ _ _ => trivial, hb⟩) (fun ⟨⟨l, hl, h1⟩, _⟩ => by rw [hr l hl] at h1; cases h1)
theorem Els.seven {w : World} {vs : Nat → Value} {f : Nat → Nat} {l : List Ent} {k : Nat} (h : ∀ j, En w (fun _ => True) (vs j) (prtL f l k j)) : Els (w.alloc (.cells (svnC vs) 22)) (fun _ => True) (.slice (some ⟨w.heap.size, 0, none⟩) 7 7) (svnL f l k) :=
  Els.new (us := (List.range 7).map vs) (by simp [svnL]) (by simp [svnL]) fun j p u h1 h2 => by
    have hj : j < 7 := by
      have := (List.getElem?_eq_some_iff.1 h1).1
      simpa [svnL] using this
    rw [svnL_at f l k j hj] at h1
    rw [List.getElem?_map, List.getElem?_range hj] at h2
    obtain rfl := Option.some.inj h1
    obtain rfl := Option.some.inj h2
    exact h j
end Go.Proofs.Ytaomneenflkpeaa
