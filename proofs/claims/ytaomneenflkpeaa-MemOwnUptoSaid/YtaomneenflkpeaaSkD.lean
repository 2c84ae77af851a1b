/-
  The walks over versionOf and tower.
-/
import Derived.Test.YtaomneenflkpeaaSkC
namespace Go.Proofs.Ytaomneenflkpeaa
open Go.RowKit

set_option maxRecDepth 100000 in
set_option maxHeartbeats 1000000 in
theorem str_clone (w : World) (l : List UInt8) (hl : l.length ≤ 1099511627776) : Calls Try.prog 43 #[.string ⟨l.toArray⟩] w fun r w' => r = .returned (.string ⟨l.toArray⟩) ∧ Below w.heap.size w w' := by
  have H := Lib.hid (Try.stringslite_Clone ⟨l.toArray⟩ w (by simp [ByteArray.size]; omega))
  go_enter Try.func43, Try.ntmps43
  go_wp2_with fail
  refine H.out.mono ?_
  rintro r w1 ⟨rfl, hb⟩
  go_wp2_with fail
  go_ret
  exact ⟨rfl, hb⟩

theorem results_ver {fn : Func} {p : Tmp} (h : fn.results = #[.cell p 59]) (tmps : Array Value) (w : World) (g : Nat) (cs : Array Value) (hp : tmps.getD p undef = .pointer (some ⟨g, 0, none⟩))
    (hg : w.heap[g]? = some (.cells cs 59 (0, 0))) (hs : cs.size = 4) : (results fn tmps).run Try.prog w = .ok (.agg cs) w :=
  results_cell_row h tmps w g _ cs (0, 0) _ hp hg Try.underlying59 rfl (by rw [hs]; kernel_rfl)

set_option maxRecDepth 100000 in
set_option maxHeartbeats 2000000 in
theorem ver_of (w : World) (F : Nat → Prop) (x : Ent) (hx : FitE x) (q : Option Addr) (c : Nat) (h : By w F (.slice q x.val.length c) x.val) :
    Calls Try.prog 25 #[.agg #[.string ⟨x.key.toArray⟩, .int .u64 (x.seq : Int), .bool x.gone, .slice q x.val.length c]] w fun r w' => r = .returned (verV (normE x)) ∧ Below w.heap.size w w' := by
  obtain ⟨X, hX⟩ : ∃ X, (w.alloc (.cells #[.string ⟨x.key.toArray⟩, .int .u64 (x.seq : Int), .bool x.gone, .slice q x.val.length c] 30)).alloc (.cells #[.string ⟨#[]⟩, .int .u64 0, .bool false, .string ⟨#[]⟩] 59) = X := ⟨_, rfl⟩
  have hb : Below w.heap.size w X := by rw [← hX]; exact ((Below.refl _ _).alloc (Nat.le_refl _) _).alloc (by simp) _
  have hx0 : X.heap[w.heap.size]? = some (.cells #[.string ⟨x.key.toArray⟩, .int .u64 (x.seq : Int), .bool x.gone, .slice q x.val.length c] 30 (0, 0)) := by
    rw [← hX]
    exact (alloc_old (by simp) _).trans (heap_alloc_new w _)
  have hx1 : X.heap[w.heap.size + 1]? = some (.cells #[.string ⟨#[]⟩, .int .u64 0, .bool false, .string ⟨#[]⟩] 59 (0, 0)) := by
    rw [← hX]
    exact heap_alloc2_new w _ _
  have k0 : X.cell? ⟨w.heap.size, 0, none⟩ = some (.string ⟨x.key.toArray⟩) := cell_of hx0 rfl
  have k1 : X.cell? ⟨w.heap.size, 1, none⟩ = some (.int .u64 (x.seq : Int)) := cell_of hx0 rfl
  have k2 : X.cell? ⟨w.heap.size, 2, none⟩ = some (.bool x.gone) := cell_of hx0 rfl
  have hXs : X.heap.size = w.heap.size + 2 := by rw [← hX]; simp
  obtain ⟨Y, hY⟩ : ∃ Y, X.alloc (.cells #[.string ⟨#[]⟩, .int .u64 0, .bool false, .string ⟨#[]⟩] 59) = Y := ⟨_, rfl⟩
  have hbY : Below w.heap.size w Y := by rw [← hY]; exact hb.alloc hb.size _
  have hXY : Below X.heap.size X Y := by rw [← hY]; exact (Below.refl _ _).alloc (Nat.le_refl _) _
  have hy2 : Y.heap[w.heap.size + 2]? = some (.cells #[.string ⟨#[]⟩, .int .u64 0, .bool false, .string ⟨#[]⟩] 59 (0, 0)) := by
    rw [← hY, ← hXs]
    exact heap_alloc_new X _
  have n0 : Y.cell? ⟨w.heap.size, 0, none⟩ = some (.string ⟨x.key.toArray⟩) := (hXY.cell (p := ⟨w.heap.size, 0, none⟩) (by show w.heap.size < _; omega)).trans k0
  have n1 : Y.cell? ⟨w.heap.size, 1, none⟩ = some (.int .u64 (x.seq : Int)) := (hXY.cell (p := ⟨w.heap.size, 1, none⟩) (by show w.heap.size < _; omega)).trans k1
  have n2 : Y.cell? ⟨w.heap.size, 2, none⟩ = some (.bool x.gone) := (hXY.cell (p := ⟨w.heap.size, 2, none⟩) (by show w.heap.size < _; omega)).trans k2
  have HYs : Hid (Y.heap.size = w.heap.size + 3) := Lib.hid (by rw [← hY]; simp [hXs])
  have HY0 := Lib.hid ((hXY.block _ (by omega)).trans hx0)
  have HY1 := Lib.hid ((hXY.block _ (by omega)).trans hx1)
  have HY2 := Lib.hid hy2
  have HX := Lib.hid hXs
  have HB := Lib.hid hbY
  have HBy := Lib.hid (h.below hbY)
  have HX0 := Lib.hid hx0
  have HX1 := Lib.hid hx1
  have HBX := Lib.hid hb
  have HBY := Lib.hid hbY
  rw [← hXs] at hy2
  have HY2' := Lib.hid hy2
  have HCX := Lib.hid (str_clone X.drew x.key hx.key)
  have HCY := Lib.hid (str_clone Y.drew x.key hx.key)
  have HBw := Lib.hid h
  clear hb hx0 hx1 h hx hbY hXY hy2 hXs HY2 HBy HB
  have HY2 := HY2'
  clear HY2'
  go_enter Try.func25, Try.ntmps25
  go_wp2_with fail
  go_region_held3 (fun w' => w'.cell? ⟨w.heap.size, 0, none⟩ = some (.string ⟨x.key.toArray⟩) ∧ w'.cell? ⟨w.heap.size, 1, none⟩ = some (.int .u64 (x.seq : Int)) ∧ w'.cell? ⟨w.heap.size, 2, none⟩ = some (.bool x.gone))
    (first
      | exact ⟨k0, k1, k2⟩
      | exact ⟨n0, n1, n2⟩
      | exact ⟨m0, m1, m2⟩
      | exact ⟨u0, u1, u2⟩
      | exact ⟨g0, g1, g2⟩)
    (first
      | (go_at_call 43
         refine HCX.out.mono ?_
         rintro r w1 ⟨rfl, hb1'⟩
         have hb1 : Below X.heap.size X w1 := ⟨hb1'.os, hb1'.tape, hb1'.output, hb1'.size, hb1'.block⟩
         have hz := HX.out
         have hs1 := hb1.size
         have hr0 := (hb1.block w.heap.size (by omega)).trans HX0.out
         have hr1 := (hb1.block (w.heap.size + 1) (by omega)).trans HX1.out
         have m0 : w1.cell? ⟨w.heap.size, 0, none⟩ = some (.string ⟨x.key.toArray⟩) := cell_of hr0 rfl
         have m1 : w1.cell? ⟨w.heap.size, 1, none⟩ = some (.int .u64 (x.seq : Int)) := cell_of hr0 rfl
         have m2 : w1.cell? ⟨w.heap.size, 2, none⟩ = some (.bool x.gone) := cell_of hr0 rfl
         obtain ⟨V, hV⟩ : ∃ V, w1.alloc (.cells #[.string ⟨#[]⟩, .int .u64 0, .bool false, .string ⟨#[]⟩] 59) = V := ⟨_, rfl⟩
         have hV0 : V.heap[w.heap.size]? = some (.cells #[.string ⟨x.key.toArray⟩, .int .u64 (x.seq : Int), .bool x.gone, .slice q x.val.length c] 30 (0, 0)) := (by rw [← hV]; exact (alloc_old (by omega) _).trans hr0)
         have hV1 : V.heap[w.heap.size + 1]? = some (.cells #[.string ⟨#[]⟩, .int .u64 0, .bool false, .string ⟨#[]⟩] 59 (0, 0)) := (by rw [← hV]; exact (alloc_old (by omega) _).trans hr1)
         obtain ⟨vb, hvb⟩ : ∃ vb, w1.heap.size = vb := ⟨_, rfl⟩
         have hr2 : V.heap[vb]? = some (.cells #[.string ⟨#[]⟩, .int .u64 0, .bool false, .string ⟨#[]⟩] 59 (0, 0)) := (by rw [← hV, ← hvb]; exact heap_alloc_new w1 _)
         have u0 : V.cell? ⟨w.heap.size, 0, none⟩ = some (.string ⟨x.key.toArray⟩) := cell_of hV0 rfl
         have u1 : V.cell? ⟨w.heap.size, 1, none⟩ = some (.int .u64 (x.seq : Int)) := cell_of hV0 rfl
         have u2 : V.cell? ⟨w.heap.size, 2, none⟩ = some (.bool x.gone) := cell_of hV0 rfl
         have r0 := cell_of (i := 0) hr2 rfl
         have r1 := cell_of (i := 1) hr2 rfl
         have r2 := cell_of (i := 2) hr2 rfl
         have r3 := cell_of (i := 3) hr2 rfl
         have z0 := frozen_of (i := 0) hr2
         have z1 := frozen_of (i := 1) hr2
         have z2 := frozen_of (i := 2) hr2
         have z3 := frozen_of (i := 3) hr2
         obtain ⟨Z, hZ⟩ : ∃ Z, (((V.setCell ⟨vb, 0, none⟩ (.string ⟨x.key.toArray⟩)).setCell ⟨vb, 1, none⟩ (.int .u64 (x.seq : Int))).setCell ⟨vb, 2, none⟩ (.bool x.gone)).setCell ⟨vb, 3, none⟩ (.string ⟨#[]⟩) = Z := ⟨_, rfl⟩
         have hfZ : Fr (fun k => k = vb) V Z := (by
           rw [← hZ]
           exact set4_fr V vb (.string ⟨x.key.toArray⟩) (.int .u64 (x.seq : Int)) (.bool x.gone) (.string ⟨#[]⟩) _ rfl)
         have hZ2 : Z.heap[vb]? = some (.cells #[.string ⟨x.key.toArray⟩, .int .u64 (x.seq : Int), .bool x.gone, .string ⟨#[]⟩] 59 (0, 0)) := (by
           rw [← hZ]
           exact set4_heap hr2 _ _ _ _)
         have hZ0 := (hfZ.block w.heap.size (block_lt hV0) (by omega)).trans hV0
         have hZ1 := (hfZ.block (w.heap.size + 1) (block_lt hV1) (by omega)).trans hV1
         have g0 : Z.cell? ⟨w.heap.size, 0, none⟩ = some (.string ⟨x.key.toArray⟩) := cell_of hZ0 rfl
         have g1 : Z.cell? ⟨w.heap.size, 1, none⟩ = some (.int .u64 (x.seq : Int)) := cell_of hZ0 rfl
         have g2 : Z.cell? ⟨w.heap.size, 2, none⟩ = some (.bool x.gone) := cell_of hZ0 rfl
         have hbw : Below w.heap.size w w1 := HBX.out.trans (hb1.mono HBX.out.size)
         have hbv : Below w.heap.size w V := (by rw [← hV]; exact hbw.alloc hbw.size _)
         have HVb : Hid (w.heap.size + 2 ≤ vb) := Lib.hid (by omega)
         have HZ0 := Lib.hid hZ0
         have HZ1 := Lib.hid hZ1
         have HZ2 := Lib.hid hZ2
         have HBZ : Hid (Below w.heap.size w Z) := Lib.hid (hbv.trans (hfZ.below hbv.size fun k hk e => by omega))
         clear hb1 hb1' hz hs1 hr0 hr1 hr2 hV0 hV1 hfZ hZ0 hbw hbv hZ1 hZ2)
      | (go_at_call 43
         refine HCY.out.mono ?_
         rintro r w1 ⟨rfl, hb1'⟩
         have hb1 : Below Y.heap.size Y w1 := ⟨hb1'.os, hb1'.tape, hb1'.output, hb1'.size, hb1'.block⟩
         have hz := HX.out
         have hzy := HYs.out
         have hs1 := hb1.size
         have hr0 := (hb1.block w.heap.size (by omega)).trans HY0.out
         have hr1 := (hb1.block (w.heap.size + 1) (by omega)).trans HY1.out
         have hr2 := (hb1.block X.heap.size (by omega)).trans HY2.out
         have m0 : w1.cell? ⟨w.heap.size, 0, none⟩ = some (.string ⟨x.key.toArray⟩) := cell_of hr0 rfl
         have m1 : w1.cell? ⟨w.heap.size, 1, none⟩ = some (.int .u64 (x.seq : Int)) := cell_of hr0 rfl
         have m2 : w1.cell? ⟨w.heap.size, 2, none⟩ = some (.bool x.gone) := cell_of hr0 rfl
         obtain ⟨vb, hvb⟩ : ∃ vb, X.heap.size = vb := ⟨_, rfl⟩
         rw [hvb] at hr2
         have r0 := cell_of (i := 0) hr2 rfl
         have r1 := cell_of (i := 1) hr2 rfl
         have r2 := cell_of (i := 2) hr2 rfl
         have r3 := cell_of (i := 3) hr2 rfl
         have z0 := frozen_of (i := 0) hr2
         have z1 := frozen_of (i := 1) hr2
         have z2 := frozen_of (i := 2) hr2
         have z3 := frozen_of (i := 3) hr2
         obtain ⟨Z, hZ⟩ : ∃ Z, (((w1.setCell ⟨vb, 0, none⟩ (.string ⟨x.key.toArray⟩)).setCell ⟨vb, 1, none⟩ (.int .u64 (x.seq : Int))).setCell ⟨vb, 2, none⟩ (.bool x.gone)).setCell ⟨vb, 3, none⟩ (.string ⟨#[]⟩) = Z := ⟨_, rfl⟩
         have hfZ : Fr (fun k => k = vb) w1 Z := (by
           rw [← hZ]
           exact set4_fr w1 vb (.string ⟨x.key.toArray⟩) (.int .u64 (x.seq : Int)) (.bool x.gone) (.string ⟨#[]⟩) _ rfl)
         have hZ2 : Z.heap[vb]? = some (.cells #[.string ⟨x.key.toArray⟩, .int .u64 (x.seq : Int), .bool x.gone, .string ⟨#[]⟩] 59 (0, 0)) := (by
           rw [← hZ]
           exact set4_heap hr2 _ _ _ _)
         have hZ0 := (hfZ.block w.heap.size (block_lt hr0) (by omega)).trans hr0
         have hZ1 := (hfZ.block (w.heap.size + 1) (block_lt hr1) (by omega)).trans hr1
         have g0 : Z.cell? ⟨w.heap.size, 0, none⟩ = some (.string ⟨x.key.toArray⟩) := cell_of hZ0 rfl
         have g1 : Z.cell? ⟨w.heap.size, 1, none⟩ = some (.int .u64 (x.seq : Int)) := cell_of hZ0 rfl
         have g2 : Z.cell? ⟨w.heap.size, 2, none⟩ = some (.bool x.gone) := cell_of hZ0 rfl
         have hbw : Below w.heap.size w w1 := HBY.out.trans (hb1.mono HBY.out.size)
         have HVb : Hid (w.heap.size + 2 ≤ vb) := Lib.hid (by omega)
         have HZ0 := Lib.hid hZ0
         have HZ1 := Lib.hid hZ1
         have HZ2 := Lib.hid hZ2
         have HBZ : Hid (Below w.heap.size w Z) := Lib.hid (hbw.trans (hfZ.below hbw.size fun k hk e => by omega))
         clear hb1 hb1' hz hzy hs1 hr0 hr1 hr2 hfZ hZ0 hbw hZ1 hZ2))
  all_goals
    have q3 : Z.cell? ⟨w.heap.size, 3, none⟩ = some (.slice q x.val.length c) := cell_of HZ0.out rfl
    have hst := txt_run (HBw.out.below HBZ.out).rd
    have y0 := cell_of (i := 0) HZ2.out rfl
    have y1 := cell_of (i := 1) HZ2.out rfl
    have y2 := cell_of (i := 2) HZ2.out rfl
    have y3 := cell_of (i := 3) HZ2.out rfl
    have x3 := frozen_of (i := 3) HZ2.out
    have i0 := cell_of (i := 0) HZ1.out rfl
    have i1 := cell_of (i := 1) HZ1.out rfl
    have i2 := cell_of (i := 2) HZ1.out rfl
    have i3 := cell_of (i := 3) HZ1.out rfl
    have j0 := frozen_of (i := 0) HZ1.out
    have j1 := frozen_of (i := 1) HZ1.out
    have j2 := frozen_of (i := 2) HZ1.out
    have j3 := frozen_of (i := 3) HZ1.out
    obtain ⟨U, hU⟩ : ∃ U, Z.setCell ⟨vb, 3, none⟩ (.string ⟨x.val.toArray⟩) = U := ⟨_, rfl⟩
    have hfU : Fr (fun k => k = vb) Z U := by rw [← hU]; exact Fr.setCell (fun k => k = vb) Z (p := ⟨vb, 3, none⟩) rfl _
    have hU2 : U.heap[vb]? = some (.cells #[.string ⟨x.key.toArray⟩, .int .u64 (x.seq : Int), .bool x.gone, .string ⟨x.val.toArray⟩] 59 (0, 0)) := by
      have := setCell_same (off := 3) HZ2.out (.string ⟨x.val.toArray⟩)
      rw [hU] at this
      simpa using this
    have hU1 := (hfU.block (w.heap.size + 1) (block_lt HZ1.out) (by have := HVb.out; omega)).trans HZ1.out
    have l0 := cell_of (i := 0) hU2 rfl
    have l1 := cell_of (i := 1) hU2 rfl
    have l2 := cell_of (i := 2) hU2 rfl
    have l3 := cell_of (i := 3) hU2 rfl
    have e0 := cell_of (i := 0) hU1 rfl
    have e1 := cell_of (i := 1) hU1 rfl
    have e2 := cell_of (i := 2) hU1 rfl
    have e3 := cell_of (i := 3) hU1 rfl
    have d0 := frozen_of (i := 0) hU1
    have d1 := frozen_of (i := 1) hU1
    have d2 := frozen_of (i := 2) hU1
    have d3 := frozen_of (i := 3) hU1
    have HU1 := Lib.hid hU1
    have HBU : Hid (Below w.heap.size w U) := Lib.hid (HBZ.out.trans (hfU.below HBZ.out.size fun k hk e => by have := HVb.out; omega))
    have HN : Hid (verV (normE x) = .agg #[.string ⟨x.key.toArray⟩, .int .u64 (x.seq : Int), .bool x.gone, .string ⟨(if x.gone = true then ([] : List UInt8) else x.val).toArray⟩]) := Lib.hid rfl
    clear hfU hU1 hU2
    cases hg : x.gone
    · rw [hg] at HN l2 y2
      go_wp2_with fail
      have hfr := set4_fr U (w.heap.size + 1) (.string ⟨x.key.toArray⟩) (.int .u64 (x.seq : Int)) (.bool false) (.string ⟨x.val.toArray⟩) (fun k => k = w.heap.size + 1) rfl
      refine bodyPost_ret (v := .agg #[.string ⟨x.key.toArray⟩, .int .u64 (x.seq : Int), .bool false, .string ⟨x.val.toArray⟩]) (results_ver rfl _ _ (w.heap.size + 1) _ rfl (set4_heap HU1.out _ _ _ _) rfl) rfl ⟨?_, HBU.out.trans (hfr.below HBU.out.size fun k hk e => by omega)⟩
      rw [HN.out]
      rfl
    · rw [hg] at HN l2 y2
      go_wp2_with fail
      have hfr := set4_fr Z (w.heap.size + 1) (.string ⟨x.key.toArray⟩) (.int .u64 (x.seq : Int)) (.bool true) (.string ⟨#[]⟩) (fun k => k = w.heap.size + 1) rfl
      refine bodyPost_ret (v := .agg #[.string ⟨x.key.toArray⟩, .int .u64 (x.seq : Int), .bool true, .string ⟨#[]⟩]) (results_ver rfl _ _ (w.heap.size + 1) _ rfl (set4_heap HZ1.out _ _ _ _) rfl) rfl ⟨?_, HBZ.out.trans (hfr.below HBZ.out.size fun k hk e => by omega)⟩
      rw [HN.out]
      rfl

set_option maxRecDepth 100000 in
set_option maxHeartbeats 1000000 in
theorem sk_tower (w : World) (S : Nat → Prop) (mb : Nat) (T : PTb) (sz : Nat) (dv hv : Value) (hh : Nat) (ns : List Nd) (bk : Option Nat) (h : SkAt w S mb T sz dv hv hh ns bk) (hd : T.draws.length ≤ 1048576) (hn : ns.length ≤ 1048576) :
    Calls Try.prog 27 #[.pointer (some ⟨mb, 0, none⟩), .int .i64 (ns.length : Int)] w fun r w' => r = .returned (.int .i64 (tow T)) ∧ ∃ n, w' = w.drewN n := by
  have c0 := h.c0
  obtain ⟨p, cap, rfl, h1, h2⟩ := row_shape h.drw
  have HT : Hid (tow T = if T.draws.length = 0 then 1 else if 0 ≤ T.draws.getD (ns.length % T.draws.length) 0 then 1 + T.draws.getD (ns.length % T.draws.length) 0 % 12 else 1) := Lib.hid (by unfold tow; rw [h.came])
  have HD := Lib.hid h.drw
  have HDw := Lib.hid h.wf.drw
  generalize T.draws = dr at *
  generalize ns.length = m at *
  generalize tow T = t at *
  clear h
  by_cases h0 : dr.length = 0
  · have ht : t = 1 := by rw [HT.out, if_pos h0]
    subst ht
    have q1 : ((dr.length : Int) == 0) = true := by simp [h0]
    clear h0
    go_enter Try.func27, Try.ntmps27
    go_wp2_with fail
    go_ret
    exact ⟨rfl, 0, rfl⟩
  · have q1 : ((dr.length : Int) == 0) = false := by rw [beq_eq_false_iff_ne]; omega
    have hpos : 0 < dr.length := by omega
    have hml : m % dr.length < dr.length := Nat.mod_lt _ hpos
    obtain ⟨j, hj⟩ : ∃ j, m % dr.length = j := ⟨_, rfl⟩
    rw [hj] at hml
    have ht1 : (m : Int).tmod (dr.length : Int) = (j : Int) := by rw [Int.tmod_eq_emod_of_nonneg (by omega), ← hj]; omega
    have HT2 : Hid (t = if 0 ≤ dr.getD j 0 then 1 + dr.getD j 0 % 12 else 1) := Lib.hid (by rw [HT.out, if_neg h0, hj])
    obtain ⟨b, off, e1, hbl, hFb, hc⟩ := (Cl.of_own (F := fun _ => True) HD.out (by omega) (fun _ _ => trivial) (by rw [ints_length]; omega)).at_ (j := j) (x := .int .i64 (dr.getD j 0)) (by simp [ints, hml])
    have hdj := HDw.out (dr.getD j 0) (by rw [show dr.getD j 0 = dr[j] by simp [hml]]; exact List.getElem_mem hml)
    subst e1
    generalize dr.getD j 0 = d at *
    have h3 : (0 : Int) ≤ (j : Int) := by omega
    have h4 : (j : Int) < (dr.length : Int) := by omega
    clear hbl hj h0
    by_cases hd0 : 0 ≤ d
    · have hmx : max d 0 = d := by omega
      have ht2 : d.tmod 12 = d % 12 := by rw [Int.tmod_eq_emod_of_nonneg hd0]
      have HT3 : Hid (t = 1 + d % 12) := Lib.hid (by rw [HT2.out, if_pos hd0])
      go_enter Try.func27, Try.ntmps27
      go_wp2_with fail
      go_quiet (fail)
      go_wp2_with fail
      go_ret
      exact ⟨ret_int HT3.out.symm, _, rfl⟩
    · have hmx : max d 0 = 0 := by omega
      have HT3 : Hid (t = 1) := Lib.hid (by rw [HT2.out, if_neg hd0])
      go_enter Try.func27, Try.ntmps27
      go_wp2_with fail
      go_quiet (fail)
      go_wp2_with fail
      go_ret
      exact ⟨ret_int HT3.out.symm, _, rfl⟩
end Go.Proofs.Ytaomneenflkpeaa
