/-
  The walks over merge.Compare, merge.sameKey, merge.own, merge.Right.
-/
import Derived.Test.YtagehnclkneolaaGreatDoorSkA
import Derived.Test.YtagehnclkneolaaGreatDoorEnD
import Derived.Test.YtagehnclkneolaaGreatDoorEnG
namespace Go.Proofs.YtagehnclkneolaaGreatDoor
open Go.RowKit

set_option maxRecDepth 100000 in
set_option maxHeartbeats 1000000 in
theorem mg_compare (w : World) (a b : Ent) (pa pb : Option Addr) (na nb ca cb : Nat) :
    Calls Tryz.prog 66 #[.agg #[.string ⟨a.key.toArray⟩, .int .u64 (a.seq : Int), .bool a.gone, .slice pa na ca], .agg #[.string ⟨b.key.toArray⟩, .int .u64 (b.seq : Int), .bool b.gone, .slice pb nb cb]] w
      fun e w' => e = .returned (.int .i64 (cmpE a b)) ∧ Below w.heap.size w w' := by
  obtain ⟨X, hX⟩ : ∃ X, (w.alloc (.cells #[.string ⟨a.key.toArray⟩, .int .u64 (a.seq : Int), .bool a.gone, .slice pa na ca] 37)).alloc (.cells #[.string ⟨b.key.toArray⟩, .int .u64 (b.seq : Int), .bool b.gone, .slice pb nb cb] 37) = X := ⟨_, rfl⟩
  have hb : Below w.heap.size w X := by rw [← hX]; exact ((Below.refl _ _).alloc (Nat.le_refl _) _).alloc (by simp) _
  have hXa : X.heap[w.heap.size]? = some (.cells #[.string ⟨a.key.toArray⟩, .int .u64 (a.seq : Int), .bool a.gone, .slice pa na ca] 37 (0, 0)) := by
    rw [← hX]
    exact (alloc_old (by simp) _).trans (heap_alloc_new w _)
  have hXb : X.heap[w.heap.size + 1]? = some (.cells #[.string ⟨b.key.toArray⟩, .int .u64 (b.seq : Int), .bool b.gone, .slice pb nb cb] 37 (0, 0)) := by
    rw [← hX]
    exact heap_alloc2_new w _ _
  have a0 := cell_of (i := 0) hXa rfl
  have a1 := cell_of (i := 1) hXa rfl
  have b0 := cell_of (i := 0) hXb rfl
  have b1 := cell_of (i := 1) hXb rfl
  have HB := Lib.hid hb
  have H1 := Lib.hid (Tryz.strings_Compare ⟨a.key.toArray⟩ ⟨b.key.toArray⟩ X.drew)
  have H2 := Lib.hid (cmp_u64 X.drew b.seq a.seq)
  have HC := Lib.hid (orI_cmp a b)
  generalize cmpE a b = c at *
  generalize Lib.compareBytes a.key b.key = x at *
  generalize cmpU b.seq a.seq = y at *
  have hn := heap_alloc_new X.drew (.cells #[.int .i64 x, .int .i64 y] 3)
  have H3 := Lib.hid (cmp_or (X.drew.alloc (.cells #[.int .i64 x, .int .i64 y] 3)) X.drew.heap.size 2 x y (cell_of hn rfl) (cell_of hn rfl))
  clear hb hXa hXb hn
  go_enter Tryz.func66, Tryz.ntmps66
  go_wp2_with fail
  refine wp_region_quiet_tail 10 (by kernel_rfl) (by kernel_rfl) ?_
  simp only [List.take_succ_cons, List.take_zero, List.drop_succ_cons, List.drop_zero]
  repeat (go_big_quiet_step (first | exact H1.out _ | exact H2.out _))
  refine wpQuiet_nil ?_
  go_wp2_with (refine H3.out.mono ?_; rintro r w1 ⟨rfl, rfl⟩)
  go_ret
  exact ⟨ret_int HC.out, HB.out.drew.alloc HB.out.size _⟩

end Go.Proofs.YtagehnclkneolaaGreatDoor
