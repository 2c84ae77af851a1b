/-
  The walks over small functions on versions: glacierref6.Compare, glacierlaw5.Same.
-/
import Derived.Test.YteclnnjijfbfoaaEnM
namespace Go.Proofs.Yteclnnjijfbfoaa
open Go.RowKit

set_option maxRecDepth 100000 in
set_option maxHeartbeats 1000000 in
theorem r6_compare (w : World) (a b : Ent) (pa pb : Option Addr) (na nb ca cb : Nat) :
    Calls Try.prog 17 #[.agg #[.string ⟨a.key.toArray⟩, .int .u64 (a.seq : Int), .bool a.gone, .slice pa na ca], .agg #[.string ⟨b.key.toArray⟩, .int .u64 (b.seq : Int), .bool b.gone, .slice pb nb cb]] w
      fun e w' => e = .returned (.int .i64 (cmpE a b)) ∧ Below w.heap.size w w' := by
  obtain ⟨X, hX⟩ : ∃ X, (w.alloc (.cells #[.string ⟨a.key.toArray⟩, .int .u64 (a.seq : Int), .bool a.gone, .slice pa na ca] 33)).alloc (.cells #[.string ⟨b.key.toArray⟩, .int .u64 (b.seq : Int), .bool b.gone, .slice pb nb cb] 33) = X := ⟨_, rfl⟩
  have hb : Below w.heap.size w X := by rw [← hX]; exact ((Below.refl _ _).alloc (Nat.le_refl _) _).alloc (by simp) _
  have hXa : X.heap[w.heap.size]? = some (.cells #[.string ⟨a.key.toArray⟩, .int .u64 (a.seq : Int), .bool a.gone, .slice pa na ca] 33 (0, 0)) := by
    rw [← hX]
    exact (alloc_old (by simp) _).trans (heap_alloc_new w _)
  have hXb : X.heap[w.heap.size + 1]? = some (.cells #[.string ⟨b.key.toArray⟩, .int .u64 (b.seq : Int), .bool b.gone, .slice pb nb cb] 33 (0, 0)) := by
    rw [← hX]
    exact heap_alloc2_new w _ _
  have a0 := cell_of (i := 0) hXa rfl
  have a1 := cell_of (i := 1) hXa rfl
  have b0 := cell_of (i := 0) hXb rfl
  have b1 := cell_of (i := 1) hXb rfl
  have HB := Lib.hid hb
  have hw := cmpE_ways a b
  clear hb hXa hXb
  generalize cmpE a b = c at *
  rcases hw with ⟨q1, hc⟩ | ⟨q1, q2, hc⟩ | ⟨q1, q2, q3, hc⟩ | ⟨q1, q2, q3, q4, hc⟩ | ⟨q1, q2, q3, q4, hc⟩
  all_goals
    have HC := Lib.hid hc
    clear hc
    go_enter Try.func17, Try.ntmps17
    go_wp2_with fail
    go_ret
    exact ⟨ret_int HC.out.symm, HB.out⟩

set_option maxRecDepth 100000 in
set_option maxHeartbeats 1000000 in
theorem l5_same (w : World) (a b : Ent) (F G : Nat → Prop) (pa pb : Option Addr) (ca cb : Nat) (ha : By w F (.slice pa a.val.length ca) a.val) (hbv : By w G (.slice pb b.val.length cb) b.val) :
    Calls Try.prog 22 #[.agg #[.string ⟨a.key.toArray⟩, .int .u64 (a.seq : Int), .bool a.gone, .slice pa a.val.length ca], .agg #[.string ⟨b.key.toArray⟩, .int .u64 (b.seq : Int), .bool b.gone, .slice pb b.val.length cb]] w
      fun e w' => e = .returned (.bool (sameE a b)) ∧ Below w.heap.size w w' := by
  obtain ⟨X, hX⟩ : ∃ X, (w.alloc (.cells #[.string ⟨a.key.toArray⟩, .int .u64 (a.seq : Int), .bool a.gone, .slice pa a.val.length ca] 33)).alloc (.cells #[.string ⟨b.key.toArray⟩, .int .u64 (b.seq : Int), .bool b.gone, .slice pb b.val.length cb] 33) = X := ⟨_, rfl⟩
  have hb : Below w.heap.size w X := by rw [← hX]; exact ((Below.refl _ _).alloc (Nat.le_refl _) _).alloc (by simp) _
  have hst1 := txt_run (ha.below hb).rd
  have hst2 := txt_run (hbv.below hb).rd
  have hXa : X.heap[w.heap.size]? = some (.cells #[.string ⟨a.key.toArray⟩, .int .u64 (a.seq : Int), .bool a.gone, .slice pa a.val.length ca] 33 (0, 0)) := by
    rw [← hX]
    exact (alloc_old (by simp) _).trans (heap_alloc_new w _)
  have hXb : X.heap[w.heap.size + 1]? = some (.cells #[.string ⟨b.key.toArray⟩, .int .u64 (b.seq : Int), .bool b.gone, .slice pb b.val.length cb] 33 (0, 0)) := by
    rw [← hX]
    exact heap_alloc2_new w _ _
  have a0 := cell_of (i := 0) hXa rfl
  have a1 := cell_of (i := 1) hXa rfl
  have a2 := cell_of (i := 2) hXa rfl
  have a3 := cell_of (i := 3) hXa rfl
  have b0 := cell_of (i := 0) hXb rfl
  have b1 := cell_of (i := 1) hXb rfl
  have b2 := cell_of (i := 2) hXb rfl
  have b3 := cell_of (i := 3) hXb rfl
  have HB := Lib.hid hb
  have hr : sameE a b = ((a.key == b.key) && (a.seq == b.seq) && (a.gone == b.gone) && (a.val == b.val)) := rfl
  have q2i : ((a.seq : Int) == (b.seq : Int)) = (a.seq == b.seq) := by rw [Bool.eq_iff_iff]; simp only [beq_iff_eq]; omega
  generalize sameE a b = c at *
  clear hb hXa hXb ha hbv
  cases q1 : (a.key == b.key)
  · rw [q1] at hr
    have HC := Lib.hid hr
    clear hr q2i
    go_enter Try.func22, Try.ntmps22
    go_wp2_with fail
    go_ret
    exact ⟨ret_bool (by rw [HC.out]; rfl), HB.out⟩
  · cases q2 : (a.seq == b.seq)
    · rw [q2] at q2i
      rw [q1, q2] at hr
      have HC := Lib.hid hr
      clear hr
      go_enter Try.func22, Try.ntmps22
      go_wp2_with fail
      go_ret
      exact ⟨ret_bool (by rw [HC.out]; rfl), HB.out⟩
    · rw [q2] at q2i
      cases q3 : (a.gone == b.gone)
      · rw [q1, q2, q3] at hr
        have HC := Lib.hid hr
        clear hr
        go_enter Try.func22, Try.ntmps22
        go_wp2_with fail
        go_ret
        exact ⟨ret_bool (by rw [HC.out]; rfl), HB.out⟩
      · rw [q1, q2, q3] at hr
        have HC := Lib.hid hr
        clear hr
        go_enter Try.func22, Try.ntmps22
        go_wp2_with fail
        go_ret
        exact ⟨ret_bool (by rw [HC.out]; simp), HB.out⟩
end Go.Proofs.Yteclnnjijfbfoaa
