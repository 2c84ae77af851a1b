/-
  The walks over small functions on versions: glacierref6.Compare, glacierlaw5.Same.
-/
import Derived.Test.YthmjpnllphihgaaDoorEnM
namespace Go.Proofs.YthmjpnllphihgaaDoor
open Go.RowKit

set_option maxRecDepth 100000 in
set_option maxHeartbeats 1000000 in
theorem r6_compare (w : World) (a b : Ent) (pa pb : Option Addr) (na nb ca cb : Nat) :
    Calls Tryd.prog 31 #[.agg #[.string ⟨a.key.toArray⟩, .int .u64 (a.seq : Int), .bool a.gone, .slice pa na ca], .agg #[.string ⟨b.key.toArray⟩, .int .u64 (b.seq : Int), .bool b.gone, .slice pb nb cb]] w
      fun e w' => e = .returned (.int .i64 (cmpE a b)) ∧ Below w.heap.size w w' := by
  obtain ⟨X, hX⟩ : ∃ X, (w.alloc (.cells #[.string ⟨a.key.toArray⟩, .int .u64 (a.seq : Int), .bool a.gone, .slice pa na ca] 38)).alloc (.cells #[.string ⟨b.key.toArray⟩, .int .u64 (b.seq : Int), .bool b.gone, .slice pb nb cb] 38) = X := ⟨_, rfl⟩
  have hb : Below w.heap.size w X := by rw [← hX]; exact ((Below.refl _ _).alloc (Nat.le_refl _) _).alloc (by simp) _
  have hXa : X.heap[w.heap.size]? = some (.cells #[.string ⟨a.key.toArray⟩, .int .u64 (a.seq : Int), .bool a.gone, .slice pa na ca] 38 (0, 0)) := by
    rw [← hX]
    exact (alloc_old (by simp) _).trans (heap_alloc_new w _)
  have hXb : X.heap[w.heap.size + 1]? = some (.cells #[.string ⟨b.key.toArray⟩, .int .u64 (b.seq : Int), .bool b.gone, .slice pb nb cb] 38 (0, 0)) := by
    rw [← hX]
    exact heap_alloc2_new w _ _
  have a0 := cell_of (i := 0) hXa rfl
  have a1 := cell_of (i := 1) hXa rfl
  have b0 := cell_of (i := 0) hXb rfl
  have b1 := cell_of (i := 1) hXb rfl
  have HB := Lib.hid hb
  have hw := cmpE_ways a b
  clear hb hXa hXb
  generalize cmpE a b = c at *
  rcases hw with ⟨q1, hc⟩ | ⟨q1, q2, hc⟩ | ⟨q1, q2, q3, hc⟩ | ⟨q1, q2, q3, q4, hc⟩ | ⟨q1, q2, q3, q4, hc⟩
  all_goals
    have HC := Lib.hid hc
    clear hc
    go_enter Tryd.func31, Tryd.ntmps31
    go_wp2_with fail
    go_ret
    exact ⟨ret_int HC.out.symm, HB.out⟩

end Go.Proofs.YthmjpnllphihgaaDoor
