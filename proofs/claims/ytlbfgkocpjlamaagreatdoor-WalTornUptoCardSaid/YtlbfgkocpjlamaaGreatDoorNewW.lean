/-
  The walk over New.
-/
import Derived.Test.YtlbfgkocpjlamaaGreatDoorDA
namespace Go.Proofs.YtlbfgkocpjlamaaGreatDoor
open Go.RowKit

theorem blank (w : World) (S : Nat → Prop) (db n : Nat) (hS : S db) (h : w.heap[db]? = some (.cells #[.int .i64 (n : Int), .int .i64 0, .int .i64 0, .map none] 52 (0, 0))) (hn : n ≤ 1073741824) : Dk w S db ⟨n, [], 0⟩ :=
  ⟨.map none, fun _ => 0, fun _ => .slice none 0 0, by simpa [used] using h, .inl ⟨rfl, rfl⟩, Files.nil _ _ _ _, List.Pairwise.nil, (fun _ hf => by cases hf), by simp [used], hn, hS⟩

set_option maxHeartbeats 400000 in
theorem new_bad (w : World) (n : Int) (hn : n < 1 ∨ 1073741824 < n) : Calls Tryz.prog 8 #[.int .i64 n] w fun e w' => e = .returned (.tuple #[.pointer none, .int .i64 1]) ∧ w = w' := by
  by_cases h1 : n < 1
  · go_enter Tryz.func8, Tryz.ntmps8
    go_wp2
    go_ret2
    exact ⟨rfl, rfl⟩
  · have h2 : 1073741824 < n := by omega
    go_enter Tryz.func8, Tryz.ntmps8
    go_wp2
    go_ret2
    exact ⟨rfl, rfl⟩

set_option maxHeartbeats 400000 in
theorem new_any (w : World) (n : Nat) (h1 : 1 ≤ n) (h2 : n ≤ 1073741824) : Calls Tryz.prog 8 #[.int .i64 (n : Int)] w fun e w' => e = .returned (.tuple #[.pointer (some ⟨w.heap.size, 0, none⟩), .int .i64 0]) ∧ Dk w' (fun k => w.heap.size ≤ k) w.heap.size ⟨n, [], 0⟩ ∧ Below w.heap.size w w' := by
  have h3 : 1 ≤ (n : Int) := by omega
  have h4 : (n : Int) ≤ 1073741824 := by omega
  go_enter Tryz.func8, Tryz.ntmps8
  go_wp2
  go_ret2
  refine ⟨rfl, blank _ _ _ n (Nat.le_refl _) (heap_alloc_new w _) h2, (Below.refl _ _).alloc (Nat.le_refl _) _⟩
end Go.Proofs.YtlbfgkocpjlamaaGreatDoor
