/-
  The walks over New, Links, All, Clear.
-/
import Derived.Test.YtiffoafjgcjgoaaNtF
import Derived.Laws.MakeOwn
namespace Go.Proofs.Ytiffoafjgcjgoaa
open Go.RowKit

theorem infoRow : (Try.prog.info? 48).map (fun i => (i.zero, i.size, i.bytes)) = some (some (.slice none 0 0), 1, 24) := by kernel_rfl
theorem infoBag : (Try.prog.info? 71).map (fun i => (i.zero, i.size, i.bytes)) = some (some (.slice none 0 0), 1, 24) := by kernel_rfl
theorem rep_cells (n : Nat) : madeCells (Value.slice none 0 0).cells n = (Array.replicate n (Value.slice none 0 0)) := by
  have hv : (Value.slice none 0 0).cells = #[Value.slice none 0 0] := rfl
  apply Array.ext
  · simp [madeCells]
  · intro i h2 h3
    simp [madeCells, hv, Nat.mod_one]
theorem mk_grid (n : Nat) (h : n ≤ 16) (W : World) : (Instr.makeSlice 47 (.int .i64 (n : Int)) (.int .i64 (n : Int))).run Try.prog W = .ok (.slice (some ⟨W.heap.size, 0, none⟩) n n) (W.alloc (.cells (Array.replicate n (Value.slice none 0 0)) 48)) := by
  obtain ⟨i0, hi, hz0, hz1, hz2⟩ := info_parts infoRow
  have h1 := run_make (P := Try.prog) W 47 48 i0 (.slice none 0 0) Try.underlying47 hi hz0 .i64 .i64 (n : Int) (n : Int) (by omega) (by omega) (by rw [hz2]; omega) (by omega)
  rw [hz1, rep_cells] at h1
  simpa using h1
theorem mk_row (n : Nat) (h : n ≤ 16) (W : World) : (Instr.makeSlice 48 (.int .i64 (n : Int)) (.int .i64 (n : Int))).run Try.prog W = .ok (.slice (some ⟨W.heap.size, 0, none⟩) n n) (W.alloc (.cells (Array.replicate n (Value.slice none 0 0)) 71)) := by
  obtain ⟨i0, hi, hz0, hz1, hz2⟩ := info_parts infoBag
  have h1 := run_make (P := Try.prog) W 48 71 i0 (.slice none 0 0) Try.underlying48 hi hz0 .i64 .i64 (n : Int) (n : Int) (by omega) (by omega) (by rw [hz2]; omega) (by omega)
  rw [hz1, rep_cells] at h1
  simpa using h1

/-! ### New -/
set_option maxHeartbeats 400000 in
theorem new_bad (w : World) (n b : Int) (hn : n < 1 ∨ 16 < n ∨ b < 1 ∨ 65536 < b) : Calls Try.prog 8 #[.int .i64 n, .int .i64 b] w fun e w' => e = .returned (.tuple #[.pointer none, .int .i64 1]) ∧ w = w' := by
  by_cases h1 : n < 1
  · go_enter Try.func8, Try.ntmps8
    go_wp2
    go_ret2
    exact ⟨rfl, rfl⟩
  · by_cases h2 : 16 < n
    · go_enter Try.func8, Try.ntmps8
      go_wp2
      go_ret2
      exact ⟨rfl, rfl⟩
    · by_cases h3 : b < 1
      · clear hn
        go_enter Try.func8, Try.ntmps8
        go_wp2
        go_ret2
        exact ⟨rfl, rfl⟩
      · have h4 : 65536 < b := by omega
        clear hn
        go_enter Try.func8, Try.ntmps8
        go_wp2
        go_ret2
        exact ⟨rfl, rfl⟩

/-- The grid whose first k rows are made. -/
structure Grd (w0 w : World) (n k : Nat) : Prop where
  below : Below w0.heap.size w0 w
  size : w.heap.size = w0.heap.size + 1 + k
  grid : ∃ cur, w.heap[w0.heap.size]? = some (.cells cur 48 (0, 0)) ∧ cur.size = n ∧ ∀ f, f < k → cur[f]? = some (.slice (some ⟨w0.heap.size + 1 + f, 0, none⟩) n n)
  rows : ∀ f, f < k → w.heap[w0.heap.size + 1 + f]? = some (.cells (Array.replicate n (Value.slice none 0 0)) 71 (0, 0))
theorem Grd.next {w0 w : World} {n k : Nat} (h : Grd w0 w n k) (hk : k < n) :
    Grd w0 ((w.alloc (.cells (Array.replicate n (Value.slice none 0 0)) 71)).setCell ⟨w0.heap.size, k, none⟩ (.slice (some ⟨w.heap.size, 0, none⟩) n n)) n (k + 1) := by
  obtain ⟨cur, hc, hs, hat⟩ := h.grid
  have hsz := h.size
  have hg : (w.alloc (.cells (Array.replicate n (Value.slice none 0 0)) 71)).heap[w0.heap.size]? = some (.cells cur 48 (0, 0)) := (alloc_old (block_lt hc) _).trans hc
  refine ⟨(h.below.alloc (by omega) (.cells (Array.replicate n (Value.slice none 0 0)) 71)).trans ?_, by simp; omega, ⟨_, setCell_same hg _, by simpa using hs, fun f hf => ?_⟩, fun f hf => ?_⟩
  · have h2 := Fr.setCell (fun k => w0.heap.size ≤ k) (w.alloc (.cells (Array.replicate n (Value.slice none 0 0)) 71)) (p := ⟨w0.heap.size, k, none⟩) (Nat.le_refl _) (.slice (some ⟨w.heap.size, 0, none⟩) n n)
    exact h2.below (by simp; omega) (fun j hj hle => by omega)
  · by_cases he : k = f
    · subst he
      rw [Array.getElem?_setIfInBounds_self, if_pos (by omega), hsz]
    · rw [Array.getElem?_setIfInBounds_ne he]
      exact hat f (by omega)
  · rw [setCell_other (by omega)]
    by_cases he : f = k
    · subst he
      have := heap_alloc_new w (.cells (Array.replicate n (Value.slice none 0 0)) 71)
      rw [hsz] at this
      exact this
    · rw [alloc_old (by omega)]
      exact h.rows f (by omega)
theorem Grd.net {w0 w : World} {n : Nat} (h : Grd w0 w n n) (b : Nat) (h1 : 1 ≤ n) (h2 : n ≤ 16) (h3 : 1 ≤ b) (h4 : b ≤ 65536) :
    Nt (w.alloc (.cells #[.int .i64 (b : Int), .int .i64 0, .slice (some ⟨w0.heap.size, 0, none⟩) n n] 50)) (fun k => w0.heap.size ≤ k) w.heap.size ⟨n, b, 0, []⟩ := by
  have hsz := h.size
  refine ⟨w0.heap.size, fun f => w0.heap.size + 1 + f, fun _ _ => .slice none 0 0, heap_alloc_new w _, ?_, fun f hf => ?_, fun f t _ _ => BagAt.nil _ _, fun f f' _ _ e => by simp at e; omega, (fun f t f' t' k _ _ _ _ e => by cases e), ⟨h1, h2, h3, h4, (fun m hm => by cases hm), (fun m hm => by cases hm), fun f t => Nat.zero_le _⟩, by show w0.heap.size ≤ w.heap.size; omega, Nat.le_refl _, fun f _ => by show w0.heap.size ≤ w0.heap.size + 1 + f; omega⟩
  · obtain ⟨cur, hc, _, hat⟩ := h.grid
    exact ⟨cur, (alloc_old (block_lt hc) _).trans hc, hat⟩
  · have hr := h.rows f hf
    refine ⟨_, (alloc_old (block_lt hr) _).trans hr, fun t ht => ?_⟩
    have ht2 : t < n := ht
    simp [ht2]

set_option maxRecDepth 100000 in
set_option maxHeartbeats 2000000 in
theorem new_any (w : World) (n b : Nat) (h1 : 1 ≤ n) (h2 : n ≤ 16) (h3 : 1 ≤ b) (h4 : b ≤ 65536) : Calls Try.prog 8 #[.int .i64 (n : Int), .int .i64 (b : Int)] w fun e w' => ∃ nb, e = .returned (.tuple #[.pointer (some ⟨nb, 0, none⟩), .int .i64 0]) ∧ w.heap.size ≤ nb ∧ Nt w' (fun k => w.heap.size ≤ k) nb ⟨n, b, 0, []⟩ ∧ Below w.heap.size w w' := by
  have hm1 := mk_grid n h2
  have hm2 := mk_row n h2
  have HG0 : Hid (Grd w (w.alloc (.cells (Array.replicate n (Value.slice none 0 0)) 48)) n 0) := Lib.hid ⟨(Below.refl _ _).alloc (Nat.le_refl _) _, by simp, ⟨_, heap_alloc_new w _, by simp, fun f hf => by omega⟩, fun f hf => by omega⟩
  have q1 : (1 : Int) ≤ (n : Int) := by omega
  have q2 : (n : Int) ≤ 16 := by omega
  have q3 : (1 : Int) ≤ (b : Int) := by omega
  have q4 : (b : Int) ≤ 65536 := by omega
  go_enter Try.func8, Try.ntmps8
  go_wp2_with fail
  go_loopw [26] (fun i wr => ∃ k : Nat, k ≤ n ∧ i = .int .i64 (k : Int) ∧ Hid (Grd w wr n k)) (fun i _ => n - (intOf i).toNat)
  case atStart => exact ⟨0, by omega, rfl, HG0⟩
  case round =>
    obtain ⟨k, hk, rfl, HG⟩ := hrel
    by_cases hlt : k < n
    · have HN := Lib.hid (HG.out.next hlt)
      obtain ⟨cur, hc, hs, _⟩ := HG.out.grid
      have hlc : w.heap.size < wr.heap.size := block_lt hc
      have d0 : (wr.alloc (.cells (Array.replicate n (Value.slice none 0 0)) 71)).cell? ⟨w.heap.size, k, none⟩ = some (cur[k]'(by omega)) := cell_of ((alloc_old hlc _).trans hc) (Array.getElem?_eq_getElem (by omega))
      have z0 : (wr.alloc (.cells (Array.replicate n (Value.slice none 0 0)) 71)).frozen? ⟨w.heap.size, k, none⟩ = false := frozen_of ((alloc_old hlc _).trans hc)
      generalize cur[k]'(by omega) = x0 at *
      clear hc hs hlc
      go_wp2_with fail
      go_roundw
      case rel => exact ⟨k + 1, by omega, by go_num, HN⟩
      case measure => simp [intOf]; omega
    · obtain rfl : k = n := by omega
      have HN := Lib.hid (HG.out.net b h1 h2 h3 h4)
      go_wp2_with fail
      go_ret2
      refine ⟨_, rfl, ?_, HN.out, HG.out.below.alloc ?_ _⟩
      all_goals
        have := HG.out.size
        omega
end Go.Proofs.Ytiffoafjgcjgoaa
