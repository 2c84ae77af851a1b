/-
  What GfInverts keeps in memory: the marks of the rows that are picked, and their numbers; Unit with Cauchy's below as one slice.
-/
import Derived.Test.YtjojimmfjmchcaaGnS
import Derived.Test.YtjojimmfjmchcaaGmR
namespace Go.Proofs.Ytjojimmfjmchcaa
open Go.RowKit

def usedA (n : Nat) (R : List Nat) : Array Value := ((List.range n).map fun i => Value.bool (decide (i ∈ R))).toArray
theorem usedA_at {n i : Nat} (h : i < n) (R : List Nat) : (usedA n R)[i]? = some (.bool (decide (i ∈ R))) := by simp [usedA, h]
theorem usedA_size (n : Nat) (R : List Nat) : (usedA n R).size = n := by simp [usedA]
theorem usedA_set {n i : Nat} (h : i < n) (R : List Nat) : (usedA n R).setIfInBounds i (.bool true) = usedA n (R ++ [i]) := by
  apply Array.ext_getElem?
  intro j
  by_cases hj : j < n
  · rw [usedA_at hj]
    by_cases e : i = j
    · subst e
      rw [Array.getElem?_setIfInBounds_self_of_lt (by rw [usedA_size]; exact h)]
      simp
    · rw [Array.getElem?_setIfInBounds_ne e, usedA_at hj]
      congr 2
      rw [Bool.eq_iff_iff]
      simp only [decide_eq_true_eq, List.mem_append, List.mem_singleton]
      exact ⟨fun h => .inl h, fun h => h.resolve_right fun e2 => e e2.symm⟩
  · rw [Array.getElem?_eq_none (by rw [Array.size_setIfInBounds, usedA_size]; omega), Array.getElem?_eq_none (by rw [usedA_size]; omega)]
theorem mk_bools (n : Nat) (h : n ≤ 1099511627776) (W : World) : (Instr.makeSlice 62 (.int .i64 (n : Int)) (.int .i64 (n : Int))).run Try.prog W = .ok (.slice (some ⟨W.heap.size, 0, none⟩) n n) (W.alloc (.cells (usedA n []) 4)) := by
  obtain ⟨i0, hi, hz0, hz1, hz2⟩ := info_parts (z := .bool false) (size := 1) (bytes := 1) (show (Try.prog.info? 4).map (fun i => (i.zero, i.size, i.bytes)) = some (some (.bool false), 1, 1) by kernel_rfl)
  have h1 := run_make (P := Try.prog) W 62 4 i0 (.bool false) Try.underlying62 hi hz0 .i64 .i64 (n : Int) (n : Int) (by omega) (by omega) (by rw [hz2]; omega) (by omega)
  have e : madeCells (Value.bool false).cells (((n : Nat) : Int).toNat * i0.size) = usedA n [] := by
    rw [hz1]
    apply Array.ext
    · simp [madeCells, usedA]
    · intro i h2 h3
      have hv : (Value.bool false).cells = #[Value.bool false] := rfl
      simp [madeCells, usedA, hv, Nat.mod_one]
  rw [e] at h1
  simpa using h1
/-- The numbers as values. -/
def numV (R : List Nat) : List Value := R.map fun i : Nat => Value.int .i64 (i : Int)
structure IvS (w0 wr : World) (K : Nat) (R : List Nat) (v : Value) : Prop where
  used : wr.heap[w0.heap.size]? = some (.cells (usedA K R) 4 (0, 0))
  row : wr.ownsRow 0 3 1 v R.length (numV R)
  blk : ∀ b, v.ownBlock = some b → w0.heap.size ≤ b
  bel : Below w0.heap.size w0 wr
theorem IvS.mark {w0 wr : World} {K : Nat} {R : List Nat} {v : Value} (h : IvS w0 wr K R v) {i : Nat} (hi : i < K) : (wr.setCell ⟨w0.heap.size, i, none⟩ (.bool true)).heap[w0.heap.size]? = some (.cells (usedA K (R ++ [i])) 4 (0, 0)) ∧ (wr.setCell ⟨w0.heap.size, i, none⟩ (.bool true)).ownsRow 0 3 1 v R.length (numV R) ∧ Below w0.heap.size w0 (wr.setCell ⟨w0.heap.size, i, none⟩ (.bool true)) := by
  refine ⟨by rw [← usedA_set hi]; exact setCell_same h.used _, row_keep h.row fun b hb => setCell_other (fun e => ?_) _, h.bel.setCell (Nat.le_refl _) _⟩
  obtain ⟨c, hc⟩ := row_kind h.row hb
  rw [e] at hc
  exact kind_ne h.used hc (by decide) rfl
theorem IvS.push {w0 wr w1 Y w3 : World} {K : Nat} {R : List Nat} {v v' : Value} (h : IvS w0 wr K R v) {i : Nat} (hi : i < K) (h1 : w1 = wr.setCell ⟨w0.heap.size, i, none⟩ (.bool true)) (hY : Y = w1.alloc (.cells #[.int .i64 (i : Int)] 3))
    (hrow : w3.ownsRow 0 3 1 v' (R.length + 1) (numV R ++ [.int .i64 (i : Int)])) (hg : Y.grownBy w3 v.ownBlock) (ha : v'.ownBlock = v.ownBlock ∨ v'.ownBlock = some Y.heap.size) : IvS w0 w3 K (R ++ [i]) v' := by
  obtain ⟨m1, m2, m3⟩ := h.mark hi
  rw [← h1] at m1 m2 m3
  have hYb : Below w1.heap.size w1 Y := by rw [hY]; exact bel_alloc _ _
  have hYw : Below w0.heap.size w0 Y := m3.trans (hYb.mono m3.size)
  have hu := (hYb.block _ (block_lt m1)).trans m1
  refine ⟨?_, ?_, fun b hb => ?_, hYw.trans ((Below.refl _ Y).grown hg hYw.size fun k hk => h.blk k hk)⟩
  · refine (hg.block _ (block_lt hu) fun e => ?_).trans hu
    obtain ⟨c, hc⟩ := row_kind m2 e.symm
    exact kind_ne m1 hc (by decide) rfl
  · rw [List.length_append, List.length_singleton]
    have e : numV (R ++ [i]) = numV R ++ [.int .i64 (i : Int)] := by simp [numV]
    rw [e]
    exact hrow
  · rcases ha with ha | ha
    · rw [ha] at hb
      exact h.blk b hb
    · rw [ha] at hb
      obtain rfl := Option.some.inj hb
      exact hYw.size
/-- Rows of two matrices of one's own in one slice. -/
theorem all_mx {w : World} {GU GC : Nat → Prop} {vu vc va : Value} {usU usC : List Value} {k m : Nat} (hU : OwL w GU vu usU (tabM k k unitF)) (hC : OwL w GC vc usC (tabM m k (cauF k))) (hk : k ≤ 12) (hm : m ≤ 12) (hrow : w.ownsRow 0 48 1 va (k + m) (usU ++ usC)) :
    Mx w (fun _ => True) va (tabM (k + m) k (allF k)) := by
  have hlu : usU.length = k := by rw [hU.len, tabM_len]
  have hlc : usC.length = m := by rw [hC.len, tabM_len]
  refine ⟨usU ++ usC, by rw [List.length_append, tabM_len, hlu, hlc], ?_, fun i u l hu hl => ?_⟩
  · rw [tabM_len]
    exact Cl.of_own hrow (by omega) (fun _ _ => trivial) (by rw [List.length_append, hlu, hlc, Nat.mul_one])
  · rw [← all_tab] at hl
    have hll : l.length ≤ 140737488355328 := by
      rcases List.mem_append.1 (List.mem_of_getElem? hl) with h | h
      · obtain ⟨j, _, rfl⟩ := List.mem_map.1 h
        rw [rowM_len]
        omega
      · obtain ⟨j, _, rfl⟩ := List.mem_map.1 h
        rw [rowM_len]
        omega
    by_cases h : i < k
    · rw [List.getElem?_append_left (by omega)] at hu
      rw [List.getElem?_append_left (by rw [tabM_len]; exact h)] at hl
      exact By.of_own (hU.own i u l hu hl) hll fun _ _ => trivial
    · rw [List.getElem?_append_right (by omega), hlu] at hu
      rw [List.getElem?_append_right (by rw [tabM_len]; omega), tabM_len] at hl
      exact By.of_own (hC.own (i - k) u l hu hl) hll fun _ _ => trivial
end Go.Proofs.Ytjojimmfjmchcaa
