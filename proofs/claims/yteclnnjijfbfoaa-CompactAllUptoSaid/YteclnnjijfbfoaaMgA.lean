/-
  The walks over merge.Compare, merge.sameKey, merge.own, merge.Right.
-/
import Derived.Test.YteclnnjijfbfoaaSkA
import Derived.Test.YteclnnjijfbfoaaEnD
import Derived.Test.YteclnnjijfbfoaaEnG
namespace Go.Proofs.Yteclnnjijfbfoaa
open Go.RowKit

set_option maxRecDepth 100000 in
set_option maxHeartbeats 1000000 in
theorem mg_compare (w : World) (a b : Ent) (pa pb : Option Addr) (na nb ca cb : Nat) :
    Calls Try.prog 32 #[.agg #[.string ⟨a.key.toArray⟩, .int .u64 (a.seq : Int), .bool a.gone, .slice pa na ca], .agg #[.string ⟨b.key.toArray⟩, .int .u64 (b.seq : Int), .bool b.gone, .slice pb nb cb]] w
      fun e w' => e = .returned (.int .i64 (cmpE a b)) ∧ Below w.heap.size w w' := by
  obtain ⟨X, hX⟩ : ∃ X, (w.alloc (.cells #[.string ⟨a.key.toArray⟩, .int .u64 (a.seq : Int), .bool a.gone, .slice pa na ca] 33)).alloc (.cells #[.string ⟨b.key.toArray⟩, .int .u64 (b.seq : Int), .bool b.gone, .slice pb nb cb] 33) = X := ⟨_, rfl⟩
  have hb : Below w.heap.size w X := by rw [← hX]; exact ((Below.refl _ _).alloc (Nat.le_refl _) _).alloc (by simp) _
  have hXa : X.heap[w.heap.size]? = some (.cells #[.string ⟨a.key.toArray⟩, .int .u64 (a.seq : Int), .bool a.gone, .slice pa na ca] 33 (0, 0)) := by
    rw [← hX]
    exact (alloc_old (by simp) _).trans (heap_alloc_new w _)
  have hXb : X.heap[w.heap.size + 1]? = some (.cells #[.string ⟨b.key.toArray⟩, .int .u64 (b.seq : Int), .bool b.gone, .slice pb nb cb] 33 (0, 0)) := by
    rw [← hX]
    exact heap_alloc2_new w _ _
  have a0 := cell_of (i := 0) hXa rfl
  have a1 := cell_of (i := 1) hXa rfl
  have b0 := cell_of (i := 0) hXb rfl
  have b1 := cell_of (i := 1) hXb rfl
  have HB := Lib.hid hb
  have H1 := Lib.hid (Try.strings_Compare ⟨a.key.toArray⟩ ⟨b.key.toArray⟩ X.drew)
  have H2 := Lib.hid (cmp_u64 X.drew b.seq a.seq)
  have HC := Lib.hid (orI_cmp a b)
  generalize cmpE a b = c at *
  generalize Lib.compareBytes a.key b.key = x at *
  generalize cmpU b.seq a.seq = y at *
  have hn := heap_alloc_new X.drew (.cells #[.int .i64 x, .int .i64 y] 3)
  have H3 := Lib.hid (cmp_or (X.drew.alloc (.cells #[.int .i64 x, .int .i64 y] 3)) X.drew.heap.size 2 x y (cell_of hn rfl) (cell_of hn rfl))
  clear hb hXa hXb hn
  go_enter Try.func32, Try.ntmps32
  go_wp2_with fail
  refine wp_region_quiet_tail 10 (by kernel_rfl) (by kernel_rfl) ?_
  simp only [List.take_succ_cons, List.take_zero, List.drop_succ_cons, List.drop_zero]
  repeat (go_big_quiet_step (first | exact H1.out _ | exact H2.out _))
  refine wpQuiet_nil ?_
  go_wp2_with (refine H3.out.mono ?_; rintro r w1 ⟨rfl, rfl⟩)
  go_ret
  exact ⟨ret_int HC.out, HB.out.drew.alloc HB.out.size _⟩

set_option maxRecDepth 100000 in
set_option maxHeartbeats 1000000 in
theorem mg_sameKey (w : World) (a b : Ent) (pa pb : Option Addr) (na nb ca cb : Nat) :
    Calls Try.prog 36 #[.agg #[.string ⟨a.key.toArray⟩, .int .u64 (a.seq : Int), .bool a.gone, .slice pa na ca], .agg #[.string ⟨b.key.toArray⟩, .int .u64 (b.seq : Int), .bool b.gone, .slice pb nb cb]] w
      fun e w' => e = .returned (.bool (a.key == b.key)) ∧ Below w.heap.size w w' := by
  obtain ⟨X, hX⟩ : ∃ X, (w.alloc (.cells #[.string ⟨a.key.toArray⟩, .int .u64 (a.seq : Int), .bool a.gone, .slice pa na ca] 33)).alloc (.cells #[.string ⟨b.key.toArray⟩, .int .u64 (b.seq : Int), .bool b.gone, .slice pb nb cb] 33) = X := ⟨_, rfl⟩
  have hb : Below w.heap.size w X := by rw [← hX]; exact ((Below.refl _ _).alloc (Nat.le_refl _) _).alloc (by simp) _
  have hXa : X.heap[w.heap.size]? = some (.cells #[.string ⟨a.key.toArray⟩, .int .u64 (a.seq : Int), .bool a.gone, .slice pa na ca] 33 (0, 0)) := by
    rw [← hX]
    exact (alloc_old (by simp) _).trans (heap_alloc_new w _)
  have hXb : X.heap[w.heap.size + 1]? = some (.cells #[.string ⟨b.key.toArray⟩, .int .u64 (b.seq : Int), .bool b.gone, .slice pb nb cb] 33 (0, 0)) := by
    rw [← hX]
    exact heap_alloc2_new w _ _
  have a0 := cell_of (i := 0) hXa rfl
  have b0 := cell_of (i := 0) hXb rfl
  have HB := Lib.hid hb
  clear hb hXa hXb
  cases q : (a.key == b.key)
  all_goals
    go_enter Try.func36, Try.ntmps36
    go_wp2_with fail
    go_ret
    exact ⟨rfl, HB.out⟩

set_option maxRecDepth 100000 in
set_option maxHeartbeats 1000000 in
theorem mg_clone (w : World) (l : List UInt8) (hl : l.length ≤ 281474976710656) :
    Calls Try.prog 53 #[.string ⟨l.toArray⟩] w fun r w' => r = .returned (.string ⟨l.toArray⟩) ∧ Below w.heap.size w w' := by
  have H := Lib.hid (Try.stringslite_Clone ⟨l.toArray⟩ w (by simp [ByteArray.size]; omega))
  go_enter Try.func53, Try.ntmps53
  go_wp2_with (refine H.out.mono ?_; rintro r w1 ⟨rfl, hb⟩)
  go_ret
  exact ⟨rfl, hb⟩

set_option maxRecDepth 100000 in
set_option maxHeartbeats 4000000 in
theorem mg_own (w : World) (F : Nat → Prop) (x : Ent) (q : Option Addr) (c : Nat) (hfx : FitE x) (h : By w F (.slice q x.val.length c) x.val) :
    Calls Try.prog 34 #[.agg #[.string ⟨x.key.toArray⟩, .int .u64 (x.seq : Int), .bool x.gone, .slice q x.val.length c]] w fun e w' => ∃ p k, e = .returned (.agg #[.string ⟨x.key.toArray⟩, .int .u64 (x.seq : Int), .bool x.gone, .slice p x.val.length k]) ∧
      Own w' w.heap.size (.slice p x.val.length k) x.val ∧ Below w.heap.size w w' := by
  obtain ⟨X, hX⟩ : ∃ X, (w.alloc (.cells #[.string ⟨x.key.toArray⟩, .int .u64 (x.seq : Int), .bool x.gone, .slice q x.val.length c] 33)).alloc (.cells #[.string ⟨#[]⟩, .int .u64 0, .bool false, .slice none 0 0] 33) = X := ⟨_, rfl⟩
  have hb : Below w.heap.size w X := by rw [← hX]; exact ((Below.refl _ _).alloc (Nat.le_refl _) _).alloc (by simp) _
  have hXs : X.heap.size = w.heap.size + 2 := by rw [← hX]; simp
  have hXa : X.heap[w.heap.size]? = some (.cells #[.string ⟨x.key.toArray⟩, .int .u64 (x.seq : Int), .bool x.gone, .slice q x.val.length c] 33 (0, 0)) := by
    rw [← hX]
    exact (alloc_old (by simp) _).trans (heap_alloc_new w _)
  have hXb : X.heap[w.heap.size + 1]? = some (.cells #[.string ⟨#[]⟩, .int .u64 0, .bool false, .slice none 0 0] 33 (0, 0)) := by
    rw [← hX]
    exact heap_alloc2_new w _ _
  have a0 := cell_of (i := 0) hXa rfl
  have HCl := Lib.hid (mg_clone X x.key (by have := hfx.key; omega))
  have hlen := h.len
  have HBy : Hid (By X (fun k => k < w.heap.size) (.slice q x.val.length c) x.val) := Lib.hid ((h.mono (G := fun k => k < w.heap.size) fun k hk _ => hk).below hb)
  have HB := Lib.hid hb
  have HXa := Lib.hid hXa
  have HXb := Lib.hid hXb
  have HXs := Lib.hid hXs
  clear h hb hXs hXa hXb hfx
  go_enter Try.func34, Try.ntmps34
  go_wp2_with fail
  refine HCl.out.mono ?_
  rintro r w1 ⟨rfl, hb1⟩
  have h1a := (hb1.block _ (by have := HXs.out; omega)).trans HXa.out
  have h1b := (hb1.block _ (by have := HXs.out; omega)).trans HXb.out
  have z0 := frozen_of (i := 0) h1a
  have k0 := cell_of (i := 0) h1a rfl
  obtain ⟨Y, hY⟩ : ∃ Y, w1.setCell ⟨w.heap.size, 0, none⟩ (.string ⟨x.key.toArray⟩) = Y := ⟨_, rfl⟩
  have hYa : Y.heap[w.heap.size]? = some (.cells #[.string ⟨x.key.toArray⟩, .int .u64 (x.seq : Int), .bool x.gone, .slice q x.val.length c] 33 (0, 0)) := by
    rw [← hY]
    exact setCell_same h1a _
  have hYb : Y.heap[w.heap.size + 1]? = some (.cells #[.string ⟨#[]⟩, .int .u64 0, .bool false, .slice none 0 0] 33 (0, 0)) := by
    rw [← hY]
    exact (setCell_other (by omega) _).trans h1b
  have HBY : Hid (Below w.heap.size w Y ∧ w.heap.size + 2 ≤ Y.heap.size) := Lib.hid (by
    have h2 := HB.out.trans (hb1.mono HB.out.size)
    have h3 := hb1.size
    have h4 := HXs.out
    rw [← hY]
    exact ⟨h2.setCell (p := ⟨w.heap.size, 0, none⟩) (Nat.le_refl _) _, by simp [World.setCell]; omega⟩)
  have HR : Hid (Rd Y Y.heap.size (.slice q x.val.length c) x.val) := Lib.hid (by
    rw [← hY]
    exact ((HBy.out.below hb1).step (Fr.setCell (fun k => k = w.heap.size) w1 (p := ⟨w.heap.size, 0, none⟩) rfl _) (fun k hk hF e => by omega)).rd)
  have y3 := cell_of (i := 3) hYa rfl
  have HYa := Lib.hid hYa
  have HYb := Lib.hid hYb
  clear h1a h1b hb1 hYa hYb
  go_wp2_with (at_builtin
               refine wpList_append_rd rfl _ (.tmp 8) rfl Y.heap.size Y.heap.size (.slice none 0 0) (.slice q x.val.length c) [] x.val rfl (World.ownsRow_nil _ _ _ _) rfl HR.out (by simp; omega) (Nat.le_refl _) ?_
               intro y1 w2 ho2 hb2
               have b2a := (hb2.block _ (by have := HBY.out.2; omega)).trans HYa.out
               have b2b := (hb2.block _ (by have := HBY.out.2; omega)).trans HYb.out
               have hs2 := hb2.size
               rw [List.nil_append] at ho2
               obtain ⟨p9, c9, rfl, h91, h92⟩ := ho2.shp
               have z3 := frozen_of (i := 3) b2a
               have k3 := cell_of (i := 3) b2a rfl
               obtain ⟨Z, hZ⟩ : ∃ Z, w2.setCell ⟨w.heap.size, 3, none⟩ (.slice p9 x.val.length c9) = Z := ⟨_, rfl⟩
               have hZa : Z.heap[w.heap.size]? = some (.cells #[.string ⟨x.key.toArray⟩, .int .u64 (x.seq : Int), .bool x.gone, .slice p9 x.val.length c9] 33 (0, 0)) := by
                 rw [← hZ]
                 exact setCell_same b2a _
               have hZb : Z.heap[w.heap.size + 1]? = some (.cells #[.string ⟨#[]⟩, .int .u64 0, .bool false, .slice none 0 0] 33 (0, 0)) := by
                 rw [← hZ]
                 exact (setCell_other (by omega) _).trans b2b
               have g0 := cell_of (i := 0) hZa rfl
               have g1 := cell_of (i := 1) hZa rfl
               have g2 := cell_of (i := 2) hZa rfl
               have g3 := cell_of (i := 3) hZa rfl
               have v0 := frozen_of (i := 0) hZb
               have v1 := frozen_of (i := 1) hZb
               have v2 := frozen_of (i := 2) hZb
               have v3 := frozen_of (i := 3) hZb
               have m0 := cell_of (i := 0) hZb rfl
               have m1 := cell_of (i := 1) hZb rfl
               have m2 := cell_of (i := 2) hZb rfl
               have m3 := cell_of (i := 3) hZb rfl
               have HZb := Lib.hid hZb
               have HfZ : Hid (Fr (fun k => k = w.heap.size) w2 Z) := Lib.hid (by rw [← hZ]; exact Fr.setCell (fun k => k = w.heap.size) w2 (p := ⟨w.heap.size, 3, none⟩) rfl _)
               have Hb2 := Lib.hid hb2
               have Ho2 := Lib.hid ho2
               have Hs2 := Lib.hid hs2
               clear ho2 hb2 b2a b2b y3 hs2 hZa hZb)
  (try simp only [Exit.inBlock, Exit.then])
  have hfr := set4_fr Z (w.heap.size + 1) (.string ⟨x.key.toArray⟩) (.int .u64 (x.seq : Int)) (.bool x.gone) (.slice p9 x.val.length c9) (fun k => k = w.heap.size + 1) rfl
  have hF : Fr (fun k => w.heap.size ≤ k) w (set4 Z (w.heap.size + 1) (.string ⟨x.key.toArray⟩) (.int .u64 (x.seq : Int)) (.bool x.gone) (.slice p9 x.val.length c9)) :=
    ((Fr.of_below HBY.out.1).then ((Fr.of_below Hb2.out).mono fun k _ hk => by have := HBY.out.2; omega)).then ((HfZ.out.mono fun k _ hk => by omega).then (hfr.mono fun k _ hk => by omega))
  refine bodyPost_ret (v := .agg #[.string ⟨x.key.toArray⟩, .int .u64 (x.seq : Int), .bool x.gone, .slice p9 x.val.length c9]) (results_ent1 rfl _ _ (w.heap.size + 1) _ rfl (set4_heap HZb.out _ _ _ _) rfl) rfl ⟨_, _, rfl, ?_, hF.below (Nat.le_refl _) fun k hk hle => by omega⟩
  refine (Ho2.out.keep fun k hk => ?_).more (by have := HBY.out.2; omega)
  have hlo := Ho2.out.block k hk
  obtain ⟨cur, hc⟩ := Ho2.out.heap hk
  have hlt := block_lt hc
  exact (hfr.block k (Nat.lt_of_lt_of_le hlt HfZ.out.size) (fun e => by have := HBY.out.2; omega)).trans (HfZ.out.block k hlt (fun e => by have := HBY.out.2; omega))
end Go.Proofs.Yteclnnjijfbfoaa
