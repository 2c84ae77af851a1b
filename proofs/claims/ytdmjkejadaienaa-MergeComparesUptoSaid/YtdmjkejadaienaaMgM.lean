/-
  The walk over glacierlaw6.MergeCompares.
-/
import Derived.Test.YtdmjkejadaienaaMgI
namespace Go.Proofs.Ytdmjkejadaienaa
open Go.RowKit

set_option maxRecDepth 100000 in
set_option maxHeartbeats 4000000 in
theorem compares_any (w : World) (a b : Ent) (qa qb : Option Addr) (ca cb : Nat) (ha : By w (fun k => k < w.heap.size) (.slice qa a.val.length ca) a.val) (hfa : FitE a) (hb0 : By w (fun k => k < w.heap.size) (.slice qb b.val.length cb) b.val) (hfb : FitE b)
    (v2 : Value) (es : List Ent) (h2 : En w (fun k => k < w.heap.size) v2 es) (hf : ∀ x ∈ es, FitE x) (hl : es.length ≤ 1048576) :
    Calls Try.prog 7 #[.agg #[.string ⟨a.key.toArray⟩, .int .u64 (a.seq : Int), .bool a.gone, .slice qa a.val.length ca], .agg #[.string ⟨b.key.toArray⟩, .int .u64 (b.seq : Int), .bool b.gone, .slice qb b.val.length cb], v2] w fun r W' => r = .returned (.bool true) ∧ Below w.heap.size w W' := by
  obtain ⟨p0, c0, rfl, _, _, _, _⟩ := h2.form
  obtain ⟨X, hX⟩ : ∃ X, (w.alloc (.cells #[.string ⟨a.key.toArray⟩, .int .u64 (a.seq : Int), .bool a.gone, .slice qa a.val.length ca] 35)).alloc (.cells #[.string ⟨b.key.toArray⟩, .int .u64 (b.seq : Int), .bool b.gone, .slice qb b.val.length cb] 35) = X := ⟨_, rfl⟩
  have hb : Below w.heap.size w X := by rw [← hX]; exact ((Below.refl _ _).alloc (Nat.le_refl _) _).alloc (by simp) _
  have hXa : X.heap[w.heap.size]? = some (.cells #[.string ⟨a.key.toArray⟩, .int .u64 (a.seq : Int), .bool a.gone, .slice qa a.val.length ca] 35 (0, 0)) := by
    rw [← hX]
    exact (alloc_old (by simp) _).trans (heap_alloc_new w _)
  have hXb : X.heap[w.heap.size + 1]? = some (.cells #[.string ⟨b.key.toArray⟩, .int .u64 (b.seq : Int), .bool b.gone, .slice qb b.val.length cb] 35 (0, 0)) := by
    rw [← hX]
    exact heap_alloc2_new w _ _
  have HE0 : Hid (∀ V, Below X.heap.size X V →
      (V.cell? ⟨w.heap.size, 0, none⟩ = some (.string ⟨a.key.toArray⟩) ∧ V.cell? ⟨w.heap.size, 1, none⟩ = some (.int .u64 (a.seq : Int)) ∧ V.cell? ⟨w.heap.size, 2, none⟩ = some (.bool a.gone) ∧ V.cell? ⟨w.heap.size, 3, none⟩ = some (.slice qa a.val.length ca)) ∧
      (V.cell? ⟨w.heap.size + 1, 0, none⟩ = some (.string ⟨b.key.toArray⟩) ∧ V.cell? ⟨w.heap.size + 1, 1, none⟩ = some (.int .u64 (b.seq : Int)) ∧ V.cell? ⟨w.heap.size + 1, 2, none⟩ = some (.bool b.gone) ∧ V.cell? ⟨w.heap.size + 1, 3, none⟩ = some (.slice qb b.val.length cb))) := Lib.hid (fun V hV => by
    have hVa := (hV.block _ (block_lt hXa)).trans hXa
    have hVb := (hV.block _ (block_lt hXb)).trans hXb
    exact ⟨⟨cell_of (i := 0) hVa rfl, cell_of (i := 1) hVa rfl, cell_of (i := 2) hVa rfl, cell_of (i := 3) hVa rfl⟩, ⟨cell_of (i := 0) hVb rfl, cell_of (i := 1) hVb rfl, cell_of (i := 2) hVb rfl, cell_of (i := 3) hVb rfl⟩⟩)
  have HB := Lib.hid hb
  have HE : Hid (∀ V, Below X.heap.size X V → En V (fun k => k < w.heap.size) (.slice p0 es.length c0) es) := Lib.hid (fun V hV => (h2.below hb).below hV)
  have HA : Hid (∀ V, Below X.heap.size X V → By V (fun k => k < w.heap.size) (.slice qa a.val.length ca) a.val ∧ By V (fun k => k < w.heap.size) (.slice qb b.val.length cb) b.val) := Lib.hid (fun V hV => ⟨(ha.below hb).below hV, (hb0.below hb).below hV⟩)
  have HF := Lib.hid hf
  have HFab := Lib.hid (And.intro hfa hfb)
  have HKn := Lib.hid (mg_known X)
  obtain ⟨fw, hfw⟩ : ∃ fw, fewE es 1000 = fw := ⟨_, rfl⟩
  obtain ⟨f2, hf2⟩ : ∃ f2, fewE [a, b] 2 = f2 := ⟨_, rfl⟩
  have HFw := Lib.hid (And.intro hfw hf2)
  clear ha hfa hb0 hfb h2 hf hb hXa hXb hfw hf2
  go_enter Try.func7, Try.ntmps7
  go_wp2_with fail
  refine HKn.out.mono ?_
  rintro r w1 ⟨rfl, hb1⟩
  have hfew := l5_few w1 _ _ es (HE.out _ hb1) HF.out hl 1000
  rw [HFw.out.1] at hfew
  have HFew := Lib.hid hfew
  have HB1 := Lib.hid hb1
  clear hb1 hfew HKn
  go_wp2_with fail
  refine HFew.out.mono ?_
  rintro r w2' ⟨rfl, nq, rfl⟩
  obtain ⟨w2, hw2⟩ : ∃ w2, w1.drewN nq = w2 := ⟨_, rfl⟩
  have HB2 : Hid (Below X.heap.size X w2) := Lib.hid (by rw [← hw2]; exact below_drewN HB1.out _)
  rw [hw2]
  clear hw2 HFew HB1
  cases fw
  · go_wp2_with fail
    go_ret
    exact ⟨rfl, HB.out.trans (HB2.out.mono HB.out.size)⟩
  · obtain ⟨⟨a0, a1, a2, a3⟩, ⟨b0, b1, b2, b3⟩⟩ := HE0.out w2 HB2.out
    obtain ⟨Y, hY⟩ : ∃ Y, w2.alloc (.cells #[.string ⟨a.key.toArray⟩, .int .u64 (a.seq : Int), .bool a.gone, .slice qa a.val.length ca, .string ⟨b.key.toArray⟩, .int .u64 (b.seq : Int), .bool b.gone, .slice qb b.val.length cb] 35) = Y := ⟨_, rfl⟩
    have hBY : Below w2.heap.size w2 Y := by rw [← hY]; exact (Below.refl _ _).alloc (Nat.le_refl _) _
    have HBY : Hid (Below X.heap.size X Y) := Lib.hid (HB2.out.trans (hBY.mono HB2.out.size))
    have hEn : En Y (fun _ => True) (.slice (some ⟨w2.heap.size, 0, none⟩) 2 2) [a, b] := by
      refine ⟨[.slice qa a.val.length ca, .slice qb b.val.length cb], rfl, ?_, ?_⟩
      · rw [← hY]
        exact Cl.new w2 _ 2 _ _ _ rfl (by omega) trivial
      · intro k e u h1 h2
        match k with
        | 0 => obtain rfl := Option.some.inj h1; obtain rfl := Option.some.inj h2; exact (HA.out Y HBY.out).1.mono fun _ _ _ => trivial
        | 1 => obtain rfl := Option.some.inj h1; obtain rfl := Option.some.inj h2; exact (HA.out Y HBY.out).2.mono fun _ _ _ => trivial
        | k + 2 => simp at h1
    have hfew2 := l5_few Y _ _ [a, b] hEn (fun x hx => by
      rcases List.mem_cons.1 hx with rfl | hx
      · exact HFab.out.1
      · rw [List.mem_singleton] at hx; subst hx; exact HFab.out.2) (by simp) 2
    rw [HFw.out.2] at hfew2
    have HFew2 := Lib.hid hfew2
    clear hfew2 hEn hBY
    go_wp2_with fail
    refine HFew2.out.mono ?_
    rintro r w4' ⟨rfl, nr, rfl⟩
    obtain ⟨w4, hw4⟩ : ∃ w4, Y.drewN nr = w4 := ⟨_, rfl⟩
    have HB4 : Hid (Below X.heap.size X w4) := Lib.hid (by rw [← hw4]; exact below_drewN HBY.out _)
    rw [hw4]
    clear hw4 HFew2 a0 a1 a2 a3 b0 b1 b2 b3 HBY hY
    cases f2
    · go_wp2_with fail
      go_ret
      exact ⟨rfl, HB.out.trans (HB4.out.mono HB.out.size)⟩
    · have HC1 : Hid (∀ V, Calls Try.prog 38 #[.agg #[.string ⟨a.key.toArray⟩, .int .u64 (a.seq : Int), .bool a.gone, .slice qa a.val.length ca], .agg #[.string ⟨b.key.toArray⟩, .int .u64 (b.seq : Int), .bool b.gone, .slice qb b.val.length cb]] V
          fun e w' => e = .returned (.int .i64 (cmpE a b)) ∧ Below V.heap.size V w') := Lib.hid (fun V => mg_compare V a b qa qb _ _ ca cb)
      have HC2 : Hid (∀ V, Calls Try.prog 31 #[.agg #[.string ⟨a.key.toArray⟩, .int .u64 (a.seq : Int), .bool a.gone, .slice qa a.val.length ca], .agg #[.string ⟨b.key.toArray⟩, .int .u64 (b.seq : Int), .bool b.gone, .slice qb b.val.length cb]] V
          fun e w' => e = .returned (.int .i64 (cmpE a b)) ∧ Below V.heap.size V w') := Lib.hid (fun V => r6_compare V a b qa qb _ _ ca cb)
      have HR1 : Hid (∀ V, Below X.heap.size X V → Calls Try.prog 39 #[.slice p0 es.length c0] V fun e w' => e = .returned (.bool (rightE es)) ∧ Below V.heap.size V w') := Lib.hid (fun V hV => mg_right V _ _ es (HE.out V hV))
      have HR2 : Hid (∀ V, Below X.heap.size X V → Calls Try.prog 32 #[.slice p0 es.length c0] V fun e w' => e = .returned (.bool (rightE es)) ∧ Below V.heap.size V w') := Lib.hid (fun V hV => r6_right V _ _ es (HE.out V hV))
      have HBn : Hid (Below X.heap.size X w4.drew) := Lib.hid (below_drew HB4.out)
      generalize cmpE a b = c at *
      generalize rightE es = rt at *
      go_upto_region 5 with (fail)
      go_region_held3 (fun w' => (w'.cell? ⟨w.heap.size, 0, none⟩ = some (.string ⟨a.key.toArray⟩) ∧ w'.cell? ⟨w.heap.size, 1, none⟩ = some (.int .u64 (a.seq : Int)) ∧ w'.cell? ⟨w.heap.size, 2, none⟩ = some (.bool a.gone) ∧ w'.cell? ⟨w.heap.size, 3, none⟩ = some (.slice qa a.val.length ca)) ∧
          (w'.cell? ⟨w.heap.size + 1, 0, none⟩ = some (.string ⟨b.key.toArray⟩) ∧ w'.cell? ⟨w.heap.size + 1, 1, none⟩ = some (.int .u64 (b.seq : Int)) ∧ w'.cell? ⟨w.heap.size + 1, 2, none⟩ = some (.bool b.gone) ∧ w'.cell? ⟨w.heap.size + 1, 3, none⟩ = some (.slice qb b.val.length cb)))
        (exact HE0.out _ HBn.out)
        (first
          | (go_at_call 38
             refine (HC1.out _).mono ?_
             rintro r wz ⟨rfl, hbz⟩
             have HBn' := Lib.hid (HBn.out.trans (hbz.mono HBn.out.size))
             clear hbz HBn
             have HBn := HBn'
             clear HBn')
          | (go_at_call 31
             refine (HC2.out _).mono ?_
             rintro r wz ⟨rfl, hbz⟩
             have HBn' := Lib.hid (HBn.out.trans (hbz.mono HBn.out.size))
             clear hbz HBn
             have HBn := HBn'
             clear HBn')
          | (go_at_call 39
             refine (HR1.out _ HBn.out).mono ?_
             rintro r wz ⟨rfl, hbz⟩
             have HBn' := Lib.hid (HBn.out.trans (hbz.mono HBn.out.size))
             clear hbz HBn
             have HBn := HBn'
             clear HBn')
          | (go_at_call 32
             refine (HR2.out _ HBn.out).mono ?_
             rintro r wz ⟨rfl, hbz⟩
             have HBn' := Lib.hid (HBn.out.trans (hbz.mono HBn.out.size))
             clear hbz HBn
             have HBn := HBn'
             clear HBn'))
      all_goals (go_wp2_with fail; go_ret; exact ⟨rfl, HB.out.trans (HBn.out.mono HB.out.size)⟩)
end Go.Proofs.Ytdmjkejadaienaa
