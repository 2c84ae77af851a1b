import Derived.Test.YteclnnjijfbfoaaGCa
import Derived.Test.YteclnnjijfbfoaaMhC
import Derived.Test.YteclnnjijfbfoaaEnS

/-
  The walk over compact.job at the two tables.
-/
namespace Go.Proofs.Yteclnnjijfbfoaa
open Go.RowKit

theorem jobInfo (cs : Array Value) (hs : cs.size = 3) : (Try.prog.info? 58).map (·.size) = some cs.size := by rw [hs]; kernel_rfl
theorem results_job {fn : Func} {p : Tmp} (h : fn.results = #[.cell p 58]) (tmps : Array Value) (w : World) (g : Nat) (cs : Array Value) (hp : tmps.getD p undef = .pointer (some ⟨g, 0, none⟩))
    (hg : w.heap[g]? = some (.cells cs 58 (0, 0))) (hs : cs.size = 3) : (results fn tmps).run Try.prog w = .ok (.agg cs) w :=
  results_cell_row h tmps w g _ cs (0, 0) _ hp hg Try.underlying58 rfl (jobInfo cs hs)

/-- The stretch is laid again. -/
theorem JbM.again {w wr : World} {base g0 g1 g2 g3 : Nat} {tv : Value} {q : Option Addr} {c k : Nat} {ip : Option Addr} {ic : Nat} (h : JbM w base g0 g1 g2 g3 tv q c wr k ip ic) :
    JbM w base g0 g1 g2 g3 tv q c ((wr.setCell ⟨g2, 0, none⟩ (.string ⟨#[97]⟩)).setCell ⟨g2, 1, none⟩ (.string ⟨#[99]⟩)) k ip ic := by
  have hb : Below base wr ((wr.setCell ⟨g2, 0, none⟩ (.string ⟨#[97]⟩)).setCell ⟨g2, 1, none⟩ (.string ⟨#[99]⟩)) :=
    ((Below.refl base wr).setCell (p := ⟨g2, 0, none⟩) (Nat.le_trans h.bas h.b2) _).setCell (p := ⟨g2, 1, none⟩) (Nat.le_trans h.bas h.b2) _
  have hkd : ∀ {b : Nat} {cs : Array Value} {t : TypeId} {z : Nat × Nat}, wr.heap[b]? = some (.cells cs t z) → t ≠ 92 → ((wr.setCell ⟨g2, 0, none⟩ (.string ⟨#[97]⟩)).setCell ⟨g2, 1, none⟩ (.string ⟨#[99]⟩)).heap[b]? = some (.cells cs t z) := fun {b cs t z} h1 h2 =>
    (setCell_other (kind_ne h1 h.st h2) _).trans ((setCell_other (kind_ne h1 h.st h2) _).trans h1)
  have q1 := setCell_same (off := 0) h.st (.string ⟨#[97]⟩)
  have q2 := setCell_same (off := 1) q1 (.string ⟨#[99]⟩)
  refine ⟨hkd h.box (by decide), hkd h.res (by decide), by simpa using q2, hkd h.jb (by decide), h.ne, ?_, ?_, Cl.step h.tv_ (Fr.of_below hb) (fun j _ hj hle => by omega), h.bel.trans (hb.mono (Nat.le_refl _)), h.bas, h.b0, h.b1, h.b2, h.b3⟩
  · refine row_keep h.ints fun j hj => ?_
    obtain ⟨cur, hc⟩ := row_heap h.ints hj
    exact (hkd hc (by decide)).trans hc.symm
  · refine row_keep h.tab fun j hj => ?_
    obtain ⟨cur, hc⟩ := row_heap h.tab hj
    exact (hkd hc (by decide)).trans hc.symm

set_option maxRecDepth 100000 in
set_option maxHeartbeats 4000000 in
theorem job_k (w : World) (base : Nat) (tp q : Option Addr) (tc c : Nat) (ht : TsM w (fun k => k < base) (.slice tp 2 tc) tabs2) (hq : w.ownsRow base 49 5 (.slice q 2 c) 2 (cellsTs tabs2)) (hbase : base ≤ w.heap.size) :
    Calls Try.prog 27 #[.agg #[.slice tp 2 tc, .int .u64 0, .int .i64 0, .int .i64 0], .int .i64 0, .slice q 2 c] w fun x w' => ∃ ip ic, x = .returned (.agg #[.int .i64 0, .slice ip 2 ic, .bool true]) ∧ w'.ownsRow w.heap.size 3 1 (.slice ip 2 ic) 2 (jbInts 2) ∧ Below base w w' := by
  have hz0 := heap_alloc_new w (.cells #[.slice tp 2 tc, .int .u64 0, .int .i64 0, .int .i64 0] 44)
  obtain ⟨X0, hX0⟩ : ∃ X, w.alloc (.cells #[.slice tp 2 tc, .int .u64 0, .int .i64 0, .int .i64 0] 44) = X := ⟨_, rfl⟩
  have hbX0 : Below w.heap.size w X0 := by rw [← hX0]; exact belowA _ _
  rw [hX0] at hz0
  have hz1 := heap_alloc_new X0 (.cells #[.int .i64 0, .slice none 0 0, .bool false] 58)
  obtain ⟨X1, hX1⟩ : ∃ X, X0.alloc (.cells #[.int .i64 0, .slice none 0 0, .bool false] 58) = X := ⟨_, rfl⟩
  have hbX1 : Below X0.heap.size X0 X1 := by rw [← hX1]; exact belowA _ _
  rw [hX1] at hz1
  have hz01 := (hbX1.block _ (block_lt hz0)).trans hz0
  have HG := Lib.hid (And.intro hz01 hz1)
  have HBX : Hid (Below w.heap.size w X1) := Lib.hid (hbX0.trans (hbX1.mono hbX0.size))
  have hs0 : w.heap.size ≤ X0.heap.size := hbX0.size
  have HT := Lib.hid ht
  have HQ := Lib.hid hq
  have HBa := Lib.hid hbase
  have HAr := Lib.hid (fun (V : World) (u : Option Addr) (uc : Nat) (hu : V.ownsRow base 49 5 (.slice u 2 uc) 2 (cellsTs tabs2)) => around_k V (fun _ => True) u uc (Cl.of_own hu (by decide) (fun _ _ => trivial) (cellsTs_len tabs2)))
  have HA1 := Lib.hid (HAr.out X1 q c (row_keep hq fun j hj => HBX.out.block j (row_lt hq j hj)))
  clear hz0 hz1 hz01 hbX0 hbX1 ht hq hbase
  go_enter Try.func27, Try.ntmps27
  go_wp2_with fail
  go_step3
  go_wp2_with fail
  refine HA1.out.mono ?_
  rintro x w3 ⟨rfl, hb3⟩
  have hG0 := (hb3.block _ (block_lt HG.out.1)).trans HG.out.1
  have hG1 := (hb3.block _ (block_lt HG.out.2)).trans HG.out.2
  have hz2 := heap_alloc_new w3 (.cells #[.string ⟨#[]⟩, .string ⟨#[]⟩] 92)
  obtain ⟨Y, hY⟩ : ∃ Y, w3.alloc (.cells #[.string ⟨#[]⟩, .string ⟨#[]⟩] 92) = Y := ⟨_, rfl⟩
  have hbY : Below w3.heap.size w3 Y := by rw [← hY]; exact belowA _ _
  rw [hY] at hz2
  have f0 := frozen_of (i := 0) hz2
  have f1 := frozen_of (i := 1) hz2
  have u0 := cell_of (i := 0) hz2 rfl
  have u1 := cell_of (i := 1) hz2 rfl
  obtain ⟨Z, hZ⟩ : ∃ Z, (Y.setCell ⟨w3.heap.size, 0, none⟩ (.string ⟨#[97]⟩)).setCell ⟨w3.heap.size, 1, none⟩ (.string ⟨#[99]⟩) = Z := ⟨_, rfl⟩
  have hbZ : Below w3.heap.size w3 Z := by rw [← hZ]; exact (hbY.setCell (p := ⟨w3.heap.size, 0, none⟩) (Nat.le_refl _) _).setCell (p := ⟨w3.heap.size, 1, none⟩) (Nat.le_refl _) _
  have hz2Z : Z.heap[w3.heap.size]? = some (.cells #[.string ⟨#[97]⟩, .string ⟨#[99]⟩] 92 (0, 0)) := by
    rw [← hZ]
    have q1 := setCell_same (off := 0) hz2 (.string ⟨#[97]⟩)
    have q2 := setCell_same (off := 1) q1 (.string ⟨#[99]⟩)
    simpa using q2
  have hG0Z := (hbZ.block _ (block_lt hG0)).trans hG0
  have hG1Z := (hbZ.block _ (block_lt hG1)).trans hG1
  have v0 := cell_of (i := 0) hG0Z rfl
  have v1 := cell_of (i := 1) hG0Z rfl
  have v2 := cell_of (i := 2) hG0Z rfl
  have v3 := cell_of (i := 3) hG0Z rfl
  have s0 := cell_of (i := 0) hz2Z rfl
  have s1 := cell_of (i := 1) hz2Z rfl
  have HBZ : Hid (Below w.heap.size w Z) := Lib.hid ((HBX.out.trans (hb3.mono HBX.out.size)).trans (hbZ.mono (Nat.le_trans HBX.out.size hb3.size)))
  have HGZ := Lib.hid (And.intro hG0Z (And.intro hG1Z hz2Z))
  have hs3 : w.heap.size ≤ w3.heap.size := Nat.le_trans HBX.out.size hb3.size
  have HOv := Lib.hid (over_none Z (fun k => k < base) (.slice tp 2 tc) tabs2 0 0 0 1 [97] [99] (HT.out.below HBZ.out) (by decide) (lvT_none (by omega)))
  clear hb3 hG0 hG1 hz2 hbY hbZ hz2Z hG0Z hG1Z HA1
  go_wp2_with fail
  refine HOv.out.mono ?_
  rintro x w5 ⟨rfl, hb5⟩
  have HB5 : Hid (Below w.heap.size w w5) := Lib.hid (HBZ.out.trans (hb5.mono HBZ.out.size))
  have HG5 := Lib.hid (And.intro ((hb5.block _ (block_lt HGZ.out.1)).trans HGZ.out.1) (And.intro ((hb5.block _ (block_lt HGZ.out.2.1)).trans HGZ.out.2.1) ((hb5.block _ (block_lt HGZ.out.2.2)).trans HGZ.out.2.2)))
  have HQ5 : Hid (w5.ownsRow base 49 5 (.slice q 2 c) 2 (cellsTs tabs2)) := Lib.hid (row_keep HQ.out fun j hj => HB5.out.block j (row_lt HQ.out j hj))
  have hs5 : base ≤ w5.heap.size := Nat.le_trans HBa.out HB5.out.size
  clear hb5 s0 s1 v0 v1 v2 v3 HOv
  go_wp2_with (at_builtin; refine slTab.wpList_append rfl (.tmp 16) (.tmp 24) rfl base (v := .slice q 2 c) (u := .slice none 0 0) rfl rfl HQ5.out (Cl.nil w5 (fun _ => True)) rfl (by intro x hx; cases hx) (by omega) hs5 ?_
               intro v6 w6 ho6 hg6 ha6
               rw [List.append_nil] at ho6
               obtain ⟨q6, c6, rfl, _, _⟩ := row_shape ho6
               have HO6 : Hid (w6.ownsRow base 49 5 (.slice q6 2 c6) 2 (cellsTs tabs2)) := Lib.hid ho6
               have HG6 := Lib.hid hg6
               clear ho6 hg6 ha6)
  have hk6 : ∀ {b : Nat} {cs : Array Value} {t : TypeId} {z : Nat × Nat}, w5.heap[b]? = some (.cells cs t z) → t ≠ 49 → w6.heap[b]? = some (.cells cs t z) := fun {b cs t z} h1 h2 => (HG6.out.block b (block_lt h1) (fun e => by
    obtain ⟨cur, hc⟩ := row_heap HQ5.out e.symm
    exact kind_ne h1 hc h2 rfl)).trans h1
  have hb56 : Below base w5 w6 := (Below.refl _ _).grown HG6.out hs5 (fun j hj => row_low HQ5.out j hj)
  have hs56 := hb56.size
  have HJ7 : Hid (JbM w base w.heap.size X0.heap.size w3.heap.size w6.heap.size (.slice tp 2 tc) q6 c6 (w6.alloc (.cells #[.int .i64 0, .slice none 0 0, .bool true] 58)) 0 none 0) := Lib.hid (by
    have hbA : Below w6.heap.size w6 (w6.alloc (.cells #[.int .i64 0, .slice none 0 0, .bool true] 58)) := belowA _ _
    have g0 := hk6 HG5.out.1 (by decide)
    have g1 := hk6 HG5.out.2.1 (by decide)
    have g2 := hk6 HG5.out.2.2 (by decide)
    have h3 := block_lt g1
    have h5 := HB5.out.size
    refine ⟨(hbA.block _ (block_lt g0)).trans g0, (hbA.block _ (block_lt g1)).trans g1, (hbA.block _ (block_lt g2)).trans g2, heap_alloc_new w6 _, by omega, World.ownsRow_nil _ _ _ _, row_keep HO6.out fun j hj => hbA.block j (row_lt HO6.out j hj), ?_, ?_, HBa.out, Nat.le_refl _, hs0, hs3, by omega⟩
    · exact Cl.step (HT.out.below HB5.out) (Fr.of_below (hb56.trans (hbA.mono (by omega)))) (fun j _ hj hle => by omega)
    · exact ((HB5.out.mono HBa.out).trans hb56).trans (hbA.mono (by omega)))
  clear hk6 hb56 hs56
  go_wp2_with fail
  go_loopw [30] (fun iv wr => ∃ (k : Nat) (ip : Option Addr) (ic : Nat), k ≤ 2 ∧ iv = .int .i64 (k : Int) ∧ Hid (JbM w base w.heap.size X0.heap.size w3.heap.size w6.heap.size (.slice tp 2 tc) q6 c6 wr k ip ic)) (fun iv _ => 2 - (intOf iv).toNat)
  case atStart => exact ⟨0, none, 0, by omega, rfl, HJ7⟩
  case round =>
    obtain ⟨k, ip, ic, hk, rfl, HJ⟩ := hrel
    generalize wr = wz at *
    have hkk : k = 0 ∨ k = 1 ∨ k = 2 := by omega
    rcases hkk with rfl | rfl | rfl
    · have htm : TsM wz (fun _ => True) (.slice q6 2 c6) tabs2 := Cl.of_own HJ.out.tab (by decide) (fun _ _ => trivial) (cellsTs_len tabs2)
      obtain ⟨b2, off2, rfl, hb2, e0, e1, e2, e3, e4⟩ := htm.at_ (k := 0) (t := tabA) rfl
      simp only [Nat.zero_mul, Nat.add_zero] at e0 e1 e2 e3 e4
      simp only [tabA] at e0 e1 e2 e3 e4
      have hz := heap_alloc_new wz (.cells #[.int .i64 0, .int .i64 0, .string ⟨#[]⟩, .string ⟨#[]⟩, .int .i64 0] 49)
      obtain ⟨V, hV⟩ : ∃ Y, wz.alloc (.cells #[.int .i64 0, .int .i64 0, .string ⟨#[]⟩, .string ⟨#[]⟩, .int .i64 0] 49) = Y := ⟨_, rfl⟩
      have hbV : Below wz.heap.size wz V := by rw [← hV]; exact belowA _ _
      rw [hV] at hz
      have f0 := frozen_of (i := 0) hz
      have f1 := frozen_of (i := 1) hz
      have f2 := frozen_of (i := 2) hz
      have f3 := frozen_of (i := 3) hz
      have f4 := frozen_of (i := 4) hz
      have u0 := cell_of (i := 0) hz rfl
      have u1 := cell_of (i := 1) hz rfl
      have u2 := cell_of (i := 2) hz rfl
      have u3 := cell_of (i := 3) hz rfl
      have u4 := cell_of (i := 4) hz rfl
      obtain ⟨X, hX⟩ : ∃ X, set5 V wz.heap.size (.int .i64 1) (.int .i64 0) (.string ⟨#[97]⟩) (.string ⟨#[98]⟩) (.int .i64 0) = X := ⟨_, rfl⟩
      have hbX : Below wz.heap.size wz X := by rw [← hX]; exact hbV.trans ((set5_fr V wz.heap.size _ _ _ _ _ (fun k => k = wz.heap.size) rfl).below hbV.size (fun k hk e => by omega))
      have hXa : X.heap[wz.heap.size]? = some (.cells #[(.int .i64 1), (.int .i64 0), (.string ⟨#[97]⟩), (.string ⟨#[98]⟩), (.int .i64 0)] 49 (0, 0)) := by rw [← hX]; exact set5_heap hz _ _ _ _ _
      unfold set5 at hX
      have x0 := cell_of (i := 0) hXa rfl
      have x1 := cell_of (i := 1) hXa rfl
      have x2 := cell_of (i := 2) hXa rfl
      have x3 := cell_of (i := 3) hXa rfl
      have x4 := cell_of (i := 4) hXa rfl
      have HJX := Lib.hid (HJ.out.after hbX)
      have HbX := Lib.hid hbX
      have HRw : Hid ((X.alloc (.cells #[.int .i64 1] 3)).ownsRow w.heap.size 3 1 (.slice ip 0 ic) 0 (jbInts 0)) := Lib.hid (row_keep HJX.out.ints fun j hj => alloc_old (row_lt HJX.out.ints j hj) _)
      have HNw : Hid (Cl (X.alloc (.cells #[.int .i64 1] 3)) (fun _ => True) (.slice (some ⟨X.heap.size, 0, none⟩) 1 1) 1 [.int .i64 1]) := Lib.hid (Cl.new X (fun _ => True) 1 [.int .i64 1] _ _ rfl (by omega) trivial)
      have hXs : w.heap.size ≤ X.heap.size := Nat.le_trans (Nat.le_trans HJ.out.b3 (Nat.le_of_lt (block_lt HJ.out.jb))) hbX.size
      have j1 := cell_of (i := 1) HJX.out.jb rfl
      clear hz hbV hbX hXa htm
      go_wp2_with (at_builtin; refine slInt.wpList_append rfl (.tmp 35) (.tmp 38) rfl w.heap.size (v := .slice ip 0 ic) (u := .slice (some ⟨X.heap.size, 0, none⟩) 1 1) rfl rfl HRw.out HNw.out rfl (by intro x hx; rw [List.mem_singleton.1 hx]; rfl) (by omega) (by simp; omega) ?_
                   intro v9 w9 ho9 hg9 ha9
                   obtain ⟨p9, c9, rfl, _, _⟩ := row_shape ho9
                   have HJ9 := Lib.hid (HJ.out.put (HbX.out.alloc HbX.out.size _) ho9 hg9)
                   have j9 : w9.heap[w6.heap.size]? = _ := (hg9.block _ (Nat.lt_of_lt_of_le (block_lt HJX.out.jb) (by simp)) (fun e => by
                     obtain ⟨cur, hc⟩ := row_heap HRw.out e.symm
                     exact kind_ne ((alloc_old (block_lt HJX.out.jb) _).trans HJX.out.jb) hc (by decide) rfl)).trans ((alloc_old (block_lt HJX.out.jb) _).trans HJX.out.jb)
                   have n1 := cell_of (i := 1) j9 rfl
                   have z1 := frozen_of (i := 1) j9
                   clear ho9 hg9 ha9 j9)
      go_roundw
      case rel => exact ⟨1, p9, c9, by omega, rfl, HJ9⟩
      case measure => simp [intOf]
    · have htm : TsM wz (fun _ => True) (.slice q6 2 c6) tabs2 := Cl.of_own HJ.out.tab (by decide) (fun _ _ => trivial) (cellsTs_len tabs2)
      obtain ⟨b2, off2, rfl, hb2, e0, e1, e2, e3, e4⟩ := htm.at_ (k := 1) (t := tabB) rfl
      simp only [Nat.one_mul] at e0 e1 e2 e3 e4
      simp only [tabB] at e0 e1 e2 e3 e4
      have hz := heap_alloc_new wz (.cells #[.int .i64 0, .int .i64 0, .string ⟨#[]⟩, .string ⟨#[]⟩, .int .i64 0] 49)
      obtain ⟨V, hV⟩ : ∃ Y, wz.alloc (.cells #[.int .i64 0, .int .i64 0, .string ⟨#[]⟩, .string ⟨#[]⟩, .int .i64 0] 49) = Y := ⟨_, rfl⟩
      have hbV : Below wz.heap.size wz V := by rw [← hV]; exact belowA _ _
      rw [hV] at hz
      have f0 := frozen_of (i := 0) hz
      have f1 := frozen_of (i := 1) hz
      have f2 := frozen_of (i := 2) hz
      have f3 := frozen_of (i := 3) hz
      have f4 := frozen_of (i := 4) hz
      have u0 := cell_of (i := 0) hz rfl
      have u1 := cell_of (i := 1) hz rfl
      have u2 := cell_of (i := 2) hz rfl
      have u3 := cell_of (i := 3) hz rfl
      have u4 := cell_of (i := 4) hz rfl
      obtain ⟨X, hX⟩ : ∃ X, set5 V wz.heap.size (.int .i64 2) (.int .i64 0) (.string ⟨#[98]⟩) (.string ⟨#[99]⟩) (.int .i64 0) = X := ⟨_, rfl⟩
      have hbX : Below wz.heap.size wz X := by rw [← hX]; exact hbV.trans ((set5_fr V wz.heap.size _ _ _ _ _ (fun k => k = wz.heap.size) rfl).below hbV.size (fun k hk e => by omega))
      have hXa : X.heap[wz.heap.size]? = some (.cells #[(.int .i64 2), (.int .i64 0), (.string ⟨#[98]⟩), (.string ⟨#[99]⟩), (.int .i64 0)] 49 (0, 0)) := by rw [← hX]; exact set5_heap hz _ _ _ _ _
      unfold set5 at hX
      have x0 := cell_of (i := 0) hXa rfl
      have x1 := cell_of (i := 1) hXa rfl
      have x2 := cell_of (i := 2) hXa rfl
      have x3 := cell_of (i := 3) hXa rfl
      have x4 := cell_of (i := 4) hXa rfl
      have HJX := Lib.hid (HJ.out.after hbX)
      have HbX := Lib.hid hbX
      have HRw : Hid ((X.alloc (.cells #[.int .i64 2] 3)).ownsRow w.heap.size 3 1 (.slice ip 1 ic) 1 (jbInts 1)) := Lib.hid (row_keep HJX.out.ints fun j hj => alloc_old (row_lt HJX.out.ints j hj) _)
      have HNw : Hid (Cl (X.alloc (.cells #[.int .i64 2] 3)) (fun _ => True) (.slice (some ⟨X.heap.size, 0, none⟩) 1 1) 1 [.int .i64 2]) := Lib.hid (Cl.new X (fun _ => True) 1 [.int .i64 2] _ _ rfl (by omega) trivial)
      have hXs : w.heap.size ≤ X.heap.size := Nat.le_trans (Nat.le_trans HJ.out.b3 (Nat.le_of_lt (block_lt HJ.out.jb))) hbX.size
      have j1 := cell_of (i := 1) HJX.out.jb rfl
      clear hz hbV hbX hXa htm
      go_wp2_with (at_builtin; refine slInt.wpList_append rfl (.tmp 35) (.tmp 38) rfl w.heap.size (v := .slice ip 1 ic) (u := .slice (some ⟨X.heap.size, 0, none⟩) 1 1) rfl rfl HRw.out HNw.out rfl (by intro x hx; rw [List.mem_singleton.1 hx]; rfl) (by omega) (by simp; omega) ?_
                   intro v9 w9 ho9 hg9 ha9
                   obtain ⟨p9, c9, rfl, _, _⟩ := row_shape ho9
                   have HJ9 := Lib.hid (HJ.out.put (HbX.out.alloc HbX.out.size _) ho9 hg9)
                   have j9 : w9.heap[w6.heap.size]? = _ := (hg9.block _ (Nat.lt_of_lt_of_le (block_lt HJX.out.jb) (by simp)) (fun e => by
                     obtain ⟨cur, hc⟩ := row_heap HRw.out e.symm
                     exact kind_ne ((alloc_old (block_lt HJX.out.jb) _).trans HJX.out.jb) hc (by decide) rfl)).trans ((alloc_old (block_lt HJX.out.jb) _).trans HJX.out.jb)
                   have n1 := cell_of (i := 1) j9 rfl
                   have z1 := frozen_of (i := 1) j9
                   clear ho9 hg9 ha9 j9)
      go_roundw
      case rel => exact ⟨2, p9, c9, by omega, rfl, HJ9⟩
      case measure => simp [intOf]
    · have HA8 := Lib.hid (HAr.out wz q6 c6 HJ.out.tab)
      go_wp2_with fail
      refine HA8.out.mono ?_
      rintro x w8 ⟨rfl, hb8⟩
      have HJ8 := Lib.hid (HJ.out.after hb8)
      have s0 := cell_of (i := 0) HJ8.out.st rfl
      have s1 := cell_of (i := 1) HJ8.out.st rfl
      have z0 := frozen_of (i := 0) HJ8.out.st
      have z1 := frozen_of (i := 1) HJ8.out.st
      clear hb8 HA8
      have HJ9 := Lib.hid HJ8.out.again
      go_wp2_with fail
      go_step3
      go_wp2_with fail
      go_loopw [11] (fun mv wr => ∃ m : Nat, 2 ≤ m ∧ m ≤ 7 ∧ mv = .int .i64 (m : Int) ∧ Hid (JbM w base w.heap.size X0.heap.size w3.heap.size w6.heap.size (.slice tp 2 tc) q6 c6 wr 2 ip ic)) (fun mv _ => 7 - (intOf mv).toNat)
      case atStart => exact ⟨2, by omega, by omega, rfl, HJ9⟩
      case round =>
        obtain ⟨m, hm1, hm2, rfl, HJm⟩ := hrel
        generalize wr = wy at *
        clear s0 s1 z0 z1
        by_cases hm : m ≤ 6
        · have d1 : decide ((m : Int) ≤ 6) = true := decide_eq_true (by omega)
          have d1n : decide (m ≤ 6) = true := decide_eq_true hm
          have b0 := cell_of (i := 0) HJm.out.box rfl
          have b1 := cell_of (i := 1) HJm.out.box rfl
          have b2 := cell_of (i := 2) HJm.out.box rfl
          have b3 := cell_of (i := 3) HJm.out.box rfl
          have HAt := Lib.hid (at_any wy (fun k => k < base) (.slice tp 2 tc) tabs2 0 0 0 (m : Int) HJm.out.tv_ (by decide))
          rw [lvT_none (by omega)] at HAt
          go_wp2_with fail
          refine HAt.out.mono ?_
          rintro x w10 ⟨qe, ce, rfl, _, hb10⟩
          have HJ10 := Lib.hid (HJm.out.after hb10)
          clear hb10 b0 b1 b2 b3 HAt
          go_wp2_with fail
          refine wp_loop_rounds 1 ?_
          rw [rounds_succ]
          go_wp2_with fail
          go_roundw
          case rel => exact ⟨m + 1, by omega, by omega, by go_num, HJ10⟩
          case measure => simp [intOf]; omega
        · obtain rfl : m = 7 := by omega
          have d1 : decide ((7 : Int) ≤ 6) = false := by decide
          have r0 := cell_of (i := 0) HJm.out.res rfl
          have r1 := cell_of (i := 1) HJm.out.res rfl
          have r2 := cell_of (i := 2) HJm.out.res rfl
          have y0 := frozen_of (i := 0) HJm.out.res
          have y1 := frozen_of (i := 1) HJm.out.res
          have y2 := frozen_of (i := 2) HJm.out.res
          have j0 := cell_of (i := 0) HJm.out.jb rfl
          have j1 := cell_of (i := 1) HJm.out.jb rfl
          have j2 := cell_of (i := 2) HJm.out.jb rfl
          go_wp2_with fail
          rw [Exit.noGoto_ret]
          have q1 := setCell_same (off := 0) HJm.out.res (.int .i64 0)
          have q2 := setCell_same (off := 1) q1 (.slice ip 2 ic)
          have q3 := setCell_same (off := 2) q2 (.bool true)
          refine bodyPost_ret (v := .agg #[.int .i64 0, .slice ip 2 ic, .bool true]) (results_job rfl _ _ X0.heap.size _ rfl (by simpa using q3) rfl) rfl ⟨ip, ic, rfl, ?_, ?_⟩
          · refine row_keep HJm.out.ints fun j hj => ?_
            obtain ⟨cur, hc⟩ := row_heap HJm.out.ints hj
            have hne : j ≠ X0.heap.size := kind_ne hc HJm.out.res (by decide)
            exact (setCell_other hne _).trans ((setCell_other hne _).trans (setCell_other hne _))
          · have hx0 : base ≤ X0.heap.size := Nat.le_trans HBa.out hs0
            exact ((HJm.out.bel.setCell (p := ⟨X0.heap.size, 0, none⟩) hx0 _).setCell (p := ⟨X0.heap.size, 1, none⟩) hx0 _).setCell (p := ⟨X0.heap.size, 2, none⟩) hx0 _
end Go.Proofs.Yteclnnjijfbfoaa

/-
  The walks over compact.within, Check, sum.above, heavy where no level but 0 has tables.
-/
namespace Go.Proofs.Yteclnnjijfbfoaa
open Go.RowKit

set_option maxRecDepth 100000 in
theorem within_in (w : World) (n most : Int) (h1 : 1 ≤ n) (h2 : n ≤ most) : Calls Try.prog 23 #[.int .i64 n, .int .i64 most] w fun x w' => x = .returned (.int .i64 n) ∧ w = w' := by
  have d1 : max n 1 = n := by omega
  have d2 : min n most = n := by omega
  have d3 : ¬ n < 1 := by omega
  have d4 : ¬ most < n := by omega
  go_enter Try.func23, Try.ntmps23
  go_wp2_with fail
  go_ret
  exact ⟨rfl, rfl⟩
theorem q_sameA {P : Program} {f : FuncId} {args : Array Value} {w : World} {n : Nat} {v : Value}
    (h : Calls P f args (w.drewN n) fun e w' => e = .returned v ∧ w.drewN n = w') : Calls P f args (w.drewN n) fun e w'' => e = .returned v ∧ ∃ m, w'' = w.drewN m :=
  h.mono fun _ _ ⟨he, hm⟩ => ⟨he, n, hm.symm⟩

set_option maxRecDepth 100000 in
set_option maxHeartbeats 1000000 in
theorem above_zero (w : World) (b : Int) (h : 0 ≤ b) : Calls Try.prog 46 #[.agg #[.int .u64 0, .int .u64 0], .int .u64 b] w fun x w' => x = .returned (.bool false) ∧ Below w.heap.size w w' := by
  have d1 : decide (b < 0) = false := decide_eq_false (by omega)
  go_enter Try.func46, Try.ntmps46
  go_wp2_with fail
  go_ret
  exact ⟨rfl, belowA _ _⟩

set_option maxRecDepth 100000 in
set_option maxHeartbeats 1000000 in
theorem check_k (w : World) (z : Int) (h1 : 1 ≤ z) (h2 : z ≤ 100) : Calls Try.prog 12 #[.agg #[.int .i64 z, .int .i64 10, .int .i64 10]] w fun x w' => x = .returned (.int .i64 0) ∧ Below w.heap.size w w' := by
  have HW := Lib.hid (fun (V : World) (n most : Int) (g1 : 1 ≤ n) (g2 : n ≤ most) => within_in V n most g1 g2)
  have hz := heap_alloc_new w (.cells #[.int .i64 z, .int .i64 10, .int .i64 10] 40)
  obtain ⟨X, hX⟩ : ∃ X, w.alloc (.cells #[.int .i64 z, .int .i64 10, .int .i64 10] 40) = X := ⟨_, rfl⟩
  have HB : Hid (Below w.heap.size w X) := Lib.hid (by rw [← hX]; exact belowA _ _)
  rw [hX] at hz
  have c0 := cell_of (i := 0) hz rfl
  have c1 := cell_of (i := 1) hz rfl
  have c2 := cell_of (i := 2) hz rfl
  clear hz
  go_enter Try.func12, Try.ntmps12
  go_upto_region 1 with (fail)
  go_quiet ((go_at_call 23; exact q_sameA (HW.out _ _ _ (by omega) (by omega))))
  go_wp2_with fail
  go_ret
  exact ⟨rfl, below_drewN HB.out _⟩

theorem tableInfo (cs : Array Value) (hs : cs.size = 5) : (Try.prog.info? 49).map (·.size) = some cs.size := by rw [hs]; kernel_rfl
theorem results_table {fn : Func} {p : Tmp} (h : fn.results = #[.cell p 49]) (tmps : Array Value) (w : World) (g : Nat) (cs : Array Value) (hp : tmps.getD p undef = .pointer (some ⟨g, 0, none⟩))
    (hg : w.heap[g]? = some (.cells cs 49 (0, 0))) (hs : cs.size = 5) : (results fn tmps).run Try.prog w = .ok (.agg cs) w :=
  results_cell_row h tmps w g _ cs (0, 0) _ hp hg Try.underlying49 rfl (tableInfo cs hs)
/-- What heavy goes on with. -/
structure HvM (w : World) (g0 g1 : Nat) (F : Nat → Prop) (tv : Value) (wr : World) : Prop where
  box : wr.heap[g0]? = some (.cells #[tv, .int .u64 0, .int .i64 0, .int .i64 0] 44 (0, 0))
  res : wr.heap[g1]? = some (.cells #[.int .i64 0, .int .i64 0, .string ⟨#[]⟩, .string ⟨#[]⟩, .int .i64 0] 49 (0, 0))
  bel : Below w.heap.size w wr
  b1 : w.heap.size ≤ g1
theorem HvM.after {w wr w' : World} {g0 g1 : Nat} {F : Nat → Prop} {tv : Value} (h : HvM w g0 g1 F tv wr) (hb : Below wr.heap.size wr w') : HvM w g0 g1 F tv w' :=
  ⟨(hb.block _ (block_lt h.box)).trans h.box, (hb.block _ (block_lt h.res)).trans h.res, h.bel.trans (hb.mono h.bel.size), h.b1⟩
def pw10 (m : Nat) : Int := if m = 1 then 10 else if m = 2 then 100 else if m = 3 then 1000 else if m = 4 then 10000 else if m = 5 then 100000 else 1000000

set_option maxRecDepth 100000 in
set_option maxHeartbeats 4000000 in
theorem heavy_k (w : World) (F : Nat → Prop) (tp : Option Addr) (tc : Nat) (ht : TsM w F (.slice tp 2 tc) tabs2) :
    Calls Try.prog 28 #[.agg #[.slice tp 2 tc, .int .u64 0, .int .i64 0, .int .i64 0], .int .i64 10] w fun x w' => x = .returned (.agg #[.int .i64 0, .int .i64 0, .string ⟨#[]⟩, .string ⟨#[]⟩, .int .i64 0]) ∧ Below w.heap.size w w' := by
  have hz0 := heap_alloc_new w (.cells #[.slice tp 2 tc, .int .u64 0, .int .i64 0, .int .i64 0] 44)
  obtain ⟨X0, hX0⟩ : ∃ X, w.alloc (.cells #[.slice tp 2 tc, .int .u64 0, .int .i64 0, .int .i64 0] 44) = X := ⟨_, rfl⟩
  have hbX0 : Below w.heap.size w X0 := by rw [← hX0]; exact belowA _ _
  rw [hX0] at hz0
  have hz1 := heap_alloc_new X0 (.cells #[.int .i64 0, .int .i64 0, .string ⟨#[]⟩, .string ⟨#[]⟩, .int .i64 0] 49)
  obtain ⟨X1, hX1⟩ : ∃ X, X0.alloc (.cells #[.int .i64 0, .int .i64 0, .string ⟨#[]⟩, .string ⟨#[]⟩, .int .i64 0] 49) = X := ⟨_, rfl⟩
  have hbX1 : Below X0.heap.size X0 X1 := by rw [← hX1]; exact belowA _ _
  rw [hX1] at hz1
  have hz01 := (hbX1.block _ (block_lt hz0)).trans hz0
  have hs0 : w.heap.size ≤ X0.heap.size := hbX0.size
  have HM : Hid (HvM w w.heap.size X0.heap.size F (.slice tp 2 tc) X1) := Lib.hid ⟨hz01, hz1, hbX0.trans (hbX1.mono hbX0.size), hs0⟩
  have HT := Lib.hid ht
  clear hz0 hz1 hz01 hbX0 hbX1 ht
  go_enter Try.func28, Try.ntmps28
  go_wp2_with fail
  go_step3
  go_wp2_with fail
  go_step3
  go_wp2_with fail
  go_loopw [5, 6] (fun lv bv wr => ∃ m : Nat, 1 ≤ m ∧ m ≤ 6 ∧ lv = .int .i64 (m : Int) ∧ bv = .int .u64 (pw10 m) ∧ Hid (HvM w w.heap.size X0.heap.size F (.slice tp 2 tc) wr)) (fun lv _ _ => 6 - (intOf lv).toNat)
  case atStart => exact ⟨1, by omega, by omega, rfl, rfl, HM⟩
  case round =>
    obtain ⟨m, hm1, hm2, rfl, rfl, HH⟩ := hrel
    generalize wr = wz at *
    by_cases hm : m < 6
    · have d1 : decide ((m : Int) < 6) = true := decide_eq_true (by omega)
      have d1n : decide (m < 6) = true := decide_eq_true hm
      have hz2 := heap_alloc_new wz (.cells #[.int .u64 0, .int .u64 0] 97)
      obtain ⟨Y, hY⟩ : ∃ Y, wz.alloc (.cells #[.int .u64 0, .int .u64 0] 97) = Y := ⟨_, rfl⟩
      have hbY : Below wz.heap.size wz Y := by rw [← hY]; exact belowA _ _
      rw [hY] at hz2
      obtain ⟨X, hX⟩ : ∃ X, Y.alloc (.cells #[.int .i64 0, .int .i64 0, .string ⟨#[]⟩, .string ⟨#[]⟩, .int .i64 0] 49) = X := ⟨_, rfl⟩
      have hbX : Below Y.heap.size Y X := by rw [← hX]; exact belowA _ _
      have hz3 := (hbX.block _ (block_lt hz2)).trans hz2
      have HHX := Lib.hid (HH.out.after (hbY.trans (hbX.mono hbY.size)))
      have HZ3 := Lib.hid hz3
      have b0 := cell_of (i := 0) HHX.out.box rfl
      have b1 := cell_of (i := 1) HHX.out.box rfl
      have b2 := cell_of (i := 2) HHX.out.box rfl
      have b3 := cell_of (i := 3) HHX.out.box rfl
      have HAt := Lib.hid (at_any X F (.slice tp 2 tc) tabs2 0 0 0 (m : Int) (HT.out.below HHX.out.bel) (by decide))
      rw [lvT_none (by omega)] at HAt
      have hpw : 0 ≤ pw10 m := by unfold pw10; split <;> (try split) <;> (try split) <;> (try split) <;> (try split) <;> omega
      have hml : IntKind.u64.wrap (10 * pw10 m) = pw10 (m + 1) := by
        have hmm : m = 1 ∨ m = 2 ∨ m = 3 ∨ m = 4 ∨ m = 5 := by omega
        rcases hmm with rfl | rfl | rfl | rfl | rfl <;> decide
      generalize pw10 m = pm at *
      clear hz2 hz3 hbY hbX
      go_wp2_with fail
      refine HAt.out.mono ?_
      rintro x w10 ⟨qe, ce, rfl, _, hb10⟩
      have HH10 := Lib.hid (HHX.out.after hb10)
      have hz10 := (hb10.block _ (block_lt HZ3.out)).trans HZ3.out
      have s0 := cell_of (i := 0) hz10 rfl
      have s1 := cell_of (i := 1) hz10 rfl
      have HAb := Lib.hid (above_zero w10 pm hpw)
      clear hb10 b0 b1 b2 b3 HAt hz10
      go_wp2_with fail
      refine wp_loop_rounds 1 ?_
      rw [rounds_succ]
      go_wp2_with fail
      refine HAb.out.mono ?_
      rintro x w11 ⟨rfl, hb11⟩
      have HH11 := Lib.hid (HH10.out.after hb11)
      clear hb11 s0 s1 HAb
      go_wp2_with fail
      go_roundw
      case rel => exact ⟨m + 1, by omega, by omega, by go_num, rfl, HH11⟩
      case measure => simp [intOf]; omega
    · obtain rfl : m = 6 := by omega
      have d1 : decide ((6 : Int) < 6) = false := by decide
      have r0 := cell_of (i := 0) HH.out.res rfl
      have r1 := cell_of (i := 1) HH.out.res rfl
      have r2 := cell_of (i := 2) HH.out.res rfl
      have r3 := cell_of (i := 3) HH.out.res rfl
      have r4 := cell_of (i := 4) HH.out.res rfl
      have y0 := frozen_of (i := 0) HH.out.res
      have y1 := frozen_of (i := 1) HH.out.res
      have y2 := frozen_of (i := 2) HH.out.res
      have y3 := frozen_of (i := 3) HH.out.res
      have y4 := frozen_of (i := 4) HH.out.res
      go_wp2_with fail
      rw [Exit.noGoto_ret]
      have hq := set5_heap HH.out.res (.int .i64 0) (.int .i64 0) (.string ⟨#[]⟩) (.string ⟨#[]⟩) (.int .i64 0)
      refine bodyPost_ret (v := .agg #[.int .i64 0, .int .i64 0, .string ⟨#[]⟩, .string ⟨#[]⟩, .int .i64 0]) (results_table rfl _ _ X0.heap.size _ rfl hq rfl) rfl ⟨rfl, ?_⟩
      exact HH.out.bel.trans ((set5_fr wz X0.heap.size _ _ _ _ _ (fun k => k = X0.heap.size) rfl).below HH.out.bel.size (fun k hk e => by omega))
end Go.Proofs.Yteclnnjijfbfoaa

/-
  The walks over compact.Pick at the two tables; glacierlaw9.known.
-/
namespace Go.Proofs.Yteclnnjijfbfoaa
open Go.RowKit

theorem results_job2 {fn : Func} {p u : Tmp} (h : fn.results = #[.cell p 58, .tmp u]) (tmps : Array Value) (w : World) (g : Nat) (cs : Array Value) (b : Value) (hp : tmps.getD p undef = .pointer (some ⟨g, 0, none⟩)) (hb : tmps.getD u undef = b)
    (hg : w.heap[g]? = some (.cells cs 58 (0, 0))) (hs : cs.size = 3) : (results fn tmps).run Try.prog w = .ok (.tuple #[.agg cs, b]) w := by
  have hl := run_loadVar_row (P := Try.prog) w g _ 58 cs (0, 0) _ hg Try.underlying58 rfl (jobInfo cs hs)
  rw [results_cell_tmp h, hp, hb]
  simp [asAddr, Result.andThen, hl]
def set3 (w : World) (g : Nat) (a b c : Value) : World := ((w.setCell ⟨g, 0, none⟩ a).setCell ⟨g, 1, none⟩ b).setCell ⟨g, 2, none⟩ c
theorem set3_heap {w : World} {g : Nat} {a b c : Value} {t : TypeId} {fz : Nat × Nat} (h : w.heap[g]? = some (.cells #[a, b, c] t fz)) (x y z : Value) : (set3 w g x y z).heap[g]? = some (.cells #[x, y, z] t fz) := by
  have h1 := setCell_same (off := 0) h x
  have h2 := setCell_same (off := 1) h1 y
  have h3 := setCell_same (off := 2) h2 z
  simpa [set3] using h3
theorem set3_fr (w : World) (g : Nat) (x y z : Value) (S : Nat → Prop) (hS : S g) : Fr S w (set3 w g x y z) :=
  ((Fr.setCell S w (p := ⟨g, 0, none⟩) hS x).then (Fr.setCell S _ (p := ⟨g, 1, none⟩) hS y)).then (Fr.setCell S _ (p := ⟨g, 2, none⟩) hS z)

/-- What Pick goes on with. -/
structure PkM (w : World) (g0 g1 g2 : Nat) (tv : Value) (z : Int) (wr : World) : Prop where
  box : wr.heap[g0]? = some (.cells #[tv, .int .u64 0, .int .i64 0, .int .i64 0] 44 (0, 0))
  sh : wr.heap[g1]? = some (.cells #[.int .i64 z, .int .i64 10, .int .i64 10] 40 (0, 0))
  res : wr.heap[g2]? = some (.cells #[.int .i64 0, .slice none 0 0, .bool false] 58 (0, 0))
  bel : Below w.heap.size w wr
  b2 : w.heap.size ≤ g2
theorem PkM.after {w wr w' : World} {g0 g1 g2 : Nat} {tv : Value} {z : Int} (h : PkM w g0 g1 g2 tv z wr) (hb : Below wr.heap.size wr w') : PkM w g0 g1 g2 tv z w' :=
  ⟨(hb.block _ (block_lt h.box)).trans h.box, (hb.block _ (block_lt h.sh)).trans h.sh, (hb.block _ (block_lt h.res)).trans h.res, h.bel.trans (hb.mono h.bel.size), h.b2⟩

set_option maxRecDepth 100000 in
set_option maxHeartbeats 4000000 in
theorem pick_yes (w : World) (tp : Option Addr) (tc : Nat) (ht : TsM w (fun k => k < w.heap.size) (.slice tp 2 tc) tabs2) :
    Calls Try.prog 16 #[.agg #[.slice tp 2 tc, .int .u64 0, .int .i64 0, .int .i64 0], .agg #[.int .i64 2, .int .i64 10, .int .i64 10]] w fun x w' => ∃ ip ic, x = .returned (.tuple #[.agg #[.int .i64 0, .slice ip 2 ic, .bool true], .bool true]) ∧ (∃ b0, w'.ownsRow b0 3 1 (.slice ip 2 ic) 2 (jbInts 2)) ∧ Below w.heap.size w w' := by
  have hz0 := heap_alloc_new w (.cells #[.slice tp 2 tc, .int .u64 0, .int .i64 0, .int .i64 0] 44)
  obtain ⟨X0, hX0⟩ : ∃ X, w.alloc (.cells #[.slice tp 2 tc, .int .u64 0, .int .i64 0, .int .i64 0] 44) = X := ⟨_, rfl⟩
  have hbX0 : Below w.heap.size w X0 := by rw [← hX0]; exact belowA _ _
  rw [hX0] at hz0
  have hz1 := heap_alloc_new X0 (.cells #[.int .i64 2, .int .i64 10, .int .i64 10] 40)
  obtain ⟨X1, hX1⟩ : ∃ X, X0.alloc (.cells #[.int .i64 2, .int .i64 10, .int .i64 10] 40) = X := ⟨_, rfl⟩
  have hbX1 : Below X0.heap.size X0 X1 := by rw [← hX1]; exact belowA _ _
  rw [hX1] at hz1
  have hz2 := heap_alloc_new X1 (.cells #[.int .i64 0, .slice none 0 0, .bool false] 58)
  obtain ⟨X2, hX2⟩ : ∃ X, X1.alloc (.cells #[.int .i64 0, .slice none 0 0, .bool false] 58) = X := ⟨_, rfl⟩
  have hbX2 : Below X1.heap.size X1 X2 := by rw [← hX2]; exact belowA _ _
  rw [hX2] at hz2
  have hs0 : w.heap.size ≤ X1.heap.size := Nat.le_trans hbX0.size hbX1.size
  have HM : Hid (PkM w w.heap.size X0.heap.size X1.heap.size (.slice tp 2 tc) 2 X2) := Lib.hid ⟨(hbX2.block _ (Nat.lt_of_lt_of_le (block_lt hz0) hbX1.size)).trans ((hbX1.block _ (block_lt hz0)).trans hz0), (hbX2.block _ (block_lt hz1)).trans hz1, hz2, (hbX0.trans (hbX1.mono hbX0.size)).trans (hbX2.mono hs0), hs0⟩
  have HT := Lib.hid ht
  have s0 := cell_of (i := 0) HM.out.sh rfl
  have s1 := cell_of (i := 1) HM.out.sh rfl
  have s2 := cell_of (i := 2) HM.out.sh rfl
  have HCk := Lib.hid (check_k X2 2 (by omega) (by omega))
  clear hz0 hz1 hz2 hbX0 hbX1 hbX2 ht
  go_enter Try.func16, Try.ntmps16
  go_wp2_with fail
  refine HCk.out.mono ?_
  rintro x w3 ⟨rfl, hb3⟩
  have HM3 := Lib.hid (HM.out.after hb3)
  have b0 := cell_of (i := 0) HM3.out.box rfl
  have b1 := cell_of (i := 1) HM3.out.box rfl
  have b2 := cell_of (i := 2) HM3.out.box rfl
  have b3 := cell_of (i := 3) HM3.out.box rfl
  have HAt := Lib.hid (at_any w3 (fun k => k < w.heap.size) (.slice tp 2 tc) tabs2 0 0 0 0 (HT.out.below HM3.out.bel) (by decide))
  rw [lvT_zero] at HAt
  clear hb3 s0 s1 s2 HCk
  go_wp2_with fail
  refine HAt.out.mono ?_
  rintro x w4 ⟨q, c, rfl, hq, hb4⟩
  have HM4 := Lib.hid (HM3.out.after hb4)
  have s0 := cell_of (i := 0) HM4.out.sh rfl
  have c0 := cell_of (i := 0) HM4.out.box rfl
  have c1 := cell_of (i := 1) HM4.out.box rfl
  have c2 := cell_of (i := 2) HM4.out.box rfl
  have c3 := cell_of (i := 3) HM4.out.box rfl
  have hw3 := HM3.out.bel.size
  have HJb := Lib.hid (job_k w4 w3.heap.size tp q tc c ((HT.out.below HM4.out.bel).mono fun k _ hk => by omega) hq hb4.size)
  have HB4s := Lib.hid hb4.size
  have HX1lt := Lib.hid (block_lt HM3.out.res)
  clear hb4 hq b0 b1 b2 b3 HAt
  go_wp2_with fail
  refine HJb.out.mono ?_
  rintro x w5 ⟨ip, ic, rfl, hi, hb5⟩
  have hr5 := (hb5.block _ HX1lt.out).trans HM4.out.res
  have HR5 := Lib.hid hr5
  have r0 := cell_of (i := 0) hr5 rfl
  have r1 := cell_of (i := 1) hr5 rfl
  have r2 := cell_of (i := 2) hr5 rfl
  have y0 := frozen_of (i := 0) hr5
  have y1 := frozen_of (i := 1) hr5
  have y2 := frozen_of (i := 2) hr5
  have HI := Lib.hid hi
  have HB5 : Hid (Below w.heap.size w w5) := Lib.hid (HM4.out.bel.trans (hb5.mono hw3))
  clear hi hb5 hr5 s0 c0 c1 c2 c3 HJb
  go_wp2_with fail
  have hq := set3_heap HR5.out (.int .i64 0) (.slice ip 2 ic) (.bool true)
  have hf := set3_fr w5 X1.heap.size (.int .i64 0) (.slice ip 2 ic) (.bool true) (fun k => k = X1.heap.size) rfl
  refine bodyPost_ret (v := .tuple #[.agg #[.int .i64 0, .slice ip 2 ic, .bool true], .bool true]) (results_job2 rfl _ _ X1.heap.size _ _ rfl rfl hq rfl) rfl ⟨ip, ic, rfl, ⟨_, row_keep HI.out fun j hj => hf.block j (row_lt HI.out j hj) (fun e => ?_)⟩, ?_⟩
  · obtain ⟨cur, hc⟩ := row_heap HI.out hj
    subst e
    exact kind_ne hc HR5.out (by decide) rfl
  · exact HB5.out.trans (hf.below HB5.out.size (fun k hk e => by omega))

set_option maxRecDepth 100000 in
set_option maxHeartbeats 4000000 in
theorem pick_no (w : World) (tp : Option Addr) (tc : Nat) (ht : TsM w (fun k => k < w.heap.size) (.slice tp 2 tc) tabs2) :
    Calls Try.prog 16 #[.agg #[.slice tp 2 tc, .int .u64 0, .int .i64 0, .int .i64 0], .agg #[.int .i64 3, .int .i64 10, .int .i64 10]] w fun x w' => x = .returned (.tuple #[.agg #[.int .i64 0, .slice none 0 0, .bool false], .bool false]) ∧ Below w.heap.size w w' := by
  have hz0 := heap_alloc_new w (.cells #[.slice tp 2 tc, .int .u64 0, .int .i64 0, .int .i64 0] 44)
  obtain ⟨X0, hX0⟩ : ∃ X, w.alloc (.cells #[.slice tp 2 tc, .int .u64 0, .int .i64 0, .int .i64 0] 44) = X := ⟨_, rfl⟩
  have hbX0 : Below w.heap.size w X0 := by rw [← hX0]; exact belowA _ _
  rw [hX0] at hz0
  have hz1 := heap_alloc_new X0 (.cells #[.int .i64 3, .int .i64 10, .int .i64 10] 40)
  obtain ⟨X1, hX1⟩ : ∃ X, X0.alloc (.cells #[.int .i64 3, .int .i64 10, .int .i64 10] 40) = X := ⟨_, rfl⟩
  have hbX1 : Below X0.heap.size X0 X1 := by rw [← hX1]; exact belowA _ _
  rw [hX1] at hz1
  have hz2 := heap_alloc_new X1 (.cells #[.int .i64 0, .slice none 0 0, .bool false] 58)
  obtain ⟨X2, hX2⟩ : ∃ X, X1.alloc (.cells #[.int .i64 0, .slice none 0 0, .bool false] 58) = X := ⟨_, rfl⟩
  have hbX2 : Below X1.heap.size X1 X2 := by rw [← hX2]; exact belowA _ _
  rw [hX2] at hz2
  have hs0 : w.heap.size ≤ X1.heap.size := Nat.le_trans hbX0.size hbX1.size
  have HM : Hid (PkM w w.heap.size X0.heap.size X1.heap.size (.slice tp 2 tc) 3 X2) := Lib.hid ⟨(hbX2.block _ (Nat.lt_of_lt_of_le (block_lt hz0) hbX1.size)).trans ((hbX1.block _ (block_lt hz0)).trans hz0), (hbX2.block _ (block_lt hz1)).trans hz1, hz2, (hbX0.trans (hbX1.mono hbX0.size)).trans (hbX2.mono hs0), hs0⟩
  have HT := Lib.hid ht
  have s0 := cell_of (i := 0) HM.out.sh rfl
  have s1 := cell_of (i := 1) HM.out.sh rfl
  have s2 := cell_of (i := 2) HM.out.sh rfl
  have HCk := Lib.hid (check_k X2 3 (by omega) (by omega))
  clear hz0 hz1 hz2 hbX0 hbX1 hbX2 ht
  go_enter Try.func16, Try.ntmps16
  go_wp2_with fail
  refine HCk.out.mono ?_
  rintro x w3 ⟨rfl, hb3⟩
  have HM3 := Lib.hid (HM.out.after hb3)
  have b0 := cell_of (i := 0) HM3.out.box rfl
  have b1 := cell_of (i := 1) HM3.out.box rfl
  have b2 := cell_of (i := 2) HM3.out.box rfl
  have b3 := cell_of (i := 3) HM3.out.box rfl
  have HAt := Lib.hid (at_any w3 (fun k => k < w.heap.size) (.slice tp 2 tc) tabs2 0 0 0 0 (HT.out.below HM3.out.bel) (by decide))
  rw [lvT_zero] at HAt
  clear hb3 s0 s1 s2 HCk
  go_wp2_with fail
  refine HAt.out.mono ?_
  rintro x w4 ⟨q, c, rfl, _, hb4⟩
  have HM4 := Lib.hid (HM3.out.after hb4)
  have s0 := cell_of (i := 0) HM4.out.sh rfl
  have c0 := cell_of (i := 0) HM4.out.box rfl
  have c1 := cell_of (i := 1) HM4.out.box rfl
  have c2 := cell_of (i := 2) HM4.out.box rfl
  have c3 := cell_of (i := 3) HM4.out.box rfl
  have HHv := Lib.hid (heavy_k w4 (fun k => k < w.heap.size) tp tc (HT.out.below HM4.out.bel))
  have s1 := cell_of (i := 1) HM4.out.sh rfl
  clear hb4 b0 b1 b2 b3 HAt
  go_wp2_with fail
  refine HHv.out.mono ?_
  rintro x w5 ⟨rfl, hb5⟩
  have HM5 := Lib.hid (HM4.out.after hb5)
  have hz := heap_alloc_new w5 (.cells #[.int .i64 0, .int .i64 0, .string ⟨#[]⟩, .string ⟨#[]⟩, .int .i64 0] 49)
  obtain ⟨V, hV⟩ : ∃ Y, w5.alloc (.cells #[.int .i64 0, .int .i64 0, .string ⟨#[]⟩, .string ⟨#[]⟩, .int .i64 0] 49) = Y := ⟨_, rfl⟩
  have hbV : Below w5.heap.size w5 V := by rw [← hV]; exact belowA _ _
  rw [hV] at hz
  have f0 := frozen_of (i := 0) hz
  have f1 := frozen_of (i := 1) hz
  have f2 := frozen_of (i := 2) hz
  have f3 := frozen_of (i := 3) hz
  have f4 := frozen_of (i := 4) hz
  have u0 := cell_of (i := 0) hz rfl
  have u1 := cell_of (i := 1) hz rfl
  have u2 := cell_of (i := 2) hz rfl
  have u3 := cell_of (i := 3) hz rfl
  have u4 := cell_of (i := 4) hz rfl
  obtain ⟨X, hX⟩ : ∃ X, set5 V w5.heap.size (.int .i64 0) (.int .i64 0) (.string ⟨#[]⟩) (.string ⟨#[]⟩) (.int .i64 0) = X := ⟨_, rfl⟩
  have hbX : Below w5.heap.size w5 X := by rw [← hX]; exact hbV.trans ((set5_fr V w5.heap.size _ _ _ _ _ (fun k => k = w5.heap.size) rfl).below hbV.size (fun k hk e => by omega))
  have hXa : X.heap[w5.heap.size]? = some (.cells #[(.int .i64 0), (.int .i64 0), (.string ⟨#[]⟩), (.string ⟨#[]⟩), (.int .i64 0)] 49 (0, 0)) := by rw [← hX]; exact set5_heap hz _ _ _ _ _
  unfold set5 at hX
  have x0 := cell_of (i := 0) hXa rfl
  have x1 := cell_of (i := 1) hXa rfl
  have x2 := cell_of (i := 2) hXa rfl
  have x3 := cell_of (i := 3) hXa rfl
  have x4 := cell_of (i := 4) hXa rfl
  have HMX := Lib.hid (HM5.out.after hbX)
  have r0 := cell_of (i := 0) HMX.out.res rfl
  have r1 := cell_of (i := 1) HMX.out.res rfl
  have r2 := cell_of (i := 2) HMX.out.res rfl
  have y0 := frozen_of (i := 0) HMX.out.res
  have y1 := frozen_of (i := 1) HMX.out.res
  have y2 := frozen_of (i := 2) HMX.out.res
  clear hb5 hz hbV hbX hXa s0 s1 c0 c1 c2 c3 HHv
  go_wp2_with fail
  have hq := set3_heap HMX.out.res (.int .i64 0) (.slice none 0 0) (.bool false)
  have hf := set3_fr X X1.heap.size (.int .i64 0) (.slice none 0 0) (.bool false) (fun k => k = X1.heap.size) rfl
  refine bodyPost_ret (v := .tuple #[.agg #[.int .i64 0, .slice none 0 0, .bool false], .bool false]) (results_job2 rfl _ _ X1.heap.size _ _ rfl rfl hq rfl) rfl ⟨rfl, ?_⟩
  exact HMX.out.bel.trans (hf.below HMX.out.bel.size (fun k hk e => by omega))

end Go.Proofs.Yteclnnjijfbfoaa

/-
  The walk over glacierlaw9.known.
-/
namespace Go.Proofs.Yteclnnjijfbfoaa
open Go.RowKit

set_option maxRecDepth 100000 in
set_option maxHeartbeats 4000000 in
theorem known9 (w : World) : Calls Try.prog 5 #[] w fun x w' => x = .returned (.bool true) ∧ Below w.heap.size w w' := by
  have hz0 := heap_alloc_new w (.cells #[.int .i64 1, .int .i64 0, .string ⟨#[97]⟩, .string ⟨#[98]⟩, .int .i64 0, .int .i64 2, .int .i64 0, .string ⟨#[98]⟩, .string ⟨#[99]⟩, .int .i64 0] 49)
  have HTs0 : Hid (TsM (w.alloc (.cells #[.int .i64 1, .int .i64 0, .string ⟨#[97]⟩, .string ⟨#[98]⟩, .int .i64 0, .int .i64 2, .int .i64 0, .string ⟨#[98]⟩, .string ⟨#[99]⟩, .int .i64 0] 49)) (fun k => k = w.heap.size) (.slice (some ⟨w.heap.size, 0, none⟩) 2 2) tabs2) := Lib.hid (Cl.new w (fun k => k = w.heap.size) 2 (cellsTs tabs2) _ _ rfl (by omega) rfl)
  obtain ⟨X0, hX0⟩ : ∃ X, w.alloc (.cells #[.int .i64 1, .int .i64 0, .string ⟨#[97]⟩, .string ⟨#[98]⟩, .int .i64 0, .int .i64 2, .int .i64 0, .string ⟨#[98]⟩, .string ⟨#[99]⟩, .int .i64 0] 49) = X := ⟨_, rfl⟩
  have hbX0 : Below w.heap.size w X0 := by rw [← hX0]; exact belowA _ _
  rw [hX0] at hz0 HTs0
  have hz1 := heap_alloc_new X0 (.cells #[.slice none 0 0, .int .u64 0, .int .i64 0, .int .i64 0] 44)
  obtain ⟨Y, hY⟩ : ∃ X, X0.alloc (.cells #[.slice none 0 0, .int .u64 0, .int .i64 0, .int .i64 0] 44) = X := ⟨_, rfl⟩
  have hbY : Below X0.heap.size X0 Y := by rw [← hY]; exact belowA _ _
  rw [hY] at hz1
  have f0 := frozen_of (i := 0) hz1
  have f1 := frozen_of (i := 1) hz1
  have f2 := frozen_of (i := 2) hz1
  have f3 := frozen_of (i := 3) hz1
  have u0 := cell_of (i := 0) hz1 rfl
  have u1 := cell_of (i := 1) hz1 rfl
  have u2 := cell_of (i := 2) hz1 rfl
  have u3 := cell_of (i := 3) hz1 rfl
  obtain ⟨X, hX⟩ : ∃ X, set4 Y X0.heap.size (.slice (some ⟨w.heap.size, 0, none⟩) 2 2) (.int .u64 0) (.int .i64 0) (.int .i64 0) = X := ⟨_, rfl⟩
  have hbX : Below X0.heap.size X0 X := by rw [← hX]; exact hbY.trans ((set4_fr Y X0.heap.size _ _ _ _ (fun k => k = X0.heap.size) rfl).below hbY.size (fun k hk e => by omega))
  have hXa : X.heap[X0.heap.size]? = some (.cells #[.slice (some ⟨w.heap.size, 0, none⟩) 2 2, .int .u64 0, .int .i64 0, .int .i64 0] 44 (0, 0)) := by rw [← hX]; exact set4_heap hz1 _ _ _ _
  unfold set4 at hX
  have v0 := cell_of (i := 0) hXa rfl
  have v1 := cell_of (i := 1) hXa rfl
  have v2 := cell_of (i := 2) hXa rfl
  have v3 := cell_of (i := 3) hXa rfl
  have hlt0 := block_lt hz0
  have HTX : Hid (TsM X (fun k => k = w.heap.size) (.slice (some ⟨w.heap.size, 0, none⟩) 2 2) tabs2) := Lib.hid (HTs0.out.below hbX)
  have HXa := Lib.hid hXa
  have HB : Hid (Below w.heap.size w X) := Lib.hid (hbX0.trans (hbX.mono hbX0.size))
  have hwx := hbX.size
  have HPy := Lib.hid (pick_yes X (some ⟨w.heap.size, 0, none⟩) 2 (HTX.out.mono fun k _ hk => by omega))
  clear hz0 hz1 hbX0 hbY hbX hXa
  go_enter Try.func5, Try.ntmps5
  go_wp2_with fail
  refine HPy.out.mono ?_
  rintro x w3 ⟨ip, ic, rfl, ⟨b0, hi⟩, hb3⟩
  have hlx := block_lt HXa.out
  have hv3 := (hb3.block _ hlx).trans HXa.out
  have HT3 := Lib.hid (HTX.out.below hb3)
  have hz3 := heap_alloc_new w3 (.cells #[.int .i64 0, .slice none 0 0, .bool false] 58)
  obtain ⟨Y3, hY3⟩ : ∃ X, w3.alloc (.cells #[.int .i64 0, .slice none 0 0, .bool false] 58) = X := ⟨_, rfl⟩
  have hbY3 : Below w3.heap.size w3 Y3 := by rw [← hY3]; exact belowA _ _
  rw [hY3] at hz3
  have g0 := frozen_of (i := 0) hz3
  have g1 := frozen_of (i := 1) hz3
  have g2 := frozen_of (i := 2) hz3
  have k0 := cell_of (i := 0) hz3 rfl
  have k1 := cell_of (i := 1) hz3 rfl
  have k2 := cell_of (i := 2) hz3 rfl
  obtain ⟨X3, hX3⟩ : ∃ X, set3 Y3 w3.heap.size (.int .i64 0) (.slice ip 2 ic) (.bool true) = X := ⟨_, rfl⟩
  have hbX3 : Below w3.heap.size w3 X3 := by rw [← hX3]; exact hbY3.trans ((set3_fr Y3 w3.heap.size _ _ _ (fun k => k = w3.heap.size) rfl).below hbY3.size (fun k hk e => by omega))
  have hX3a : X3.heap[w3.heap.size]? = some (.cells #[.int .i64 0, .slice ip 2 ic, .bool true] 58 (0, 0)) := by rw [← hX3]; exact set3_heap hz3 _ _ _
  unfold set3 at hX3
  have hvX3 := (hbX3.block _ (block_lt hv3)).trans hv3
  have e0 := cell_of (i := 0) hvX3 rfl
  have e1 := cell_of (i := 1) hvX3 rfl
  have e2 := cell_of (i := 2) hvX3 rfl
  have e3 := cell_of (i := 3) hvX3 rfl
  have HB3 : Hid (Below w.heap.size w X3) := Lib.hid ((HB.out.trans (hb3.mono HB.out.size)).trans (hbX3.mono (Nat.le_trans HB.out.size hb3.size)))
  have HI3 : Hid (X3.ownsRow b0 3 1 (.slice ip 2 ic) 2 (jbInts 2)) := Lib.hid (row_keep hi fun j hj => hbX3.block j (row_lt hi j hj))
  have HX3a := Lib.hid hX3a
  have hs3 := Nat.le_trans hb3.size hbX3.size
  have HPn := Lib.hid (pick_no X3 (some ⟨w.heap.size, 0, none⟩) 2 ((HT3.out.below hbX3).mono fun k _ hk => by omega))
  clear hi hb3 hv3 hz3 hbY3 hbX3 hX3a hvX3 v0 v1 v2 v3 HPy
  go_wp2_with fail
  refine HPn.out.mono ?_
  rintro x w5 ⟨rfl, hb5⟩
  have hz5 := heap_alloc_new w5 (.cells #[.int .i64 0, .slice none 0 0, .bool false] 58)
  obtain ⟨Y5, hY5⟩ : ∃ X, w5.alloc (.cells #[.int .i64 0, .slice none 0 0, .bool false] 58) = X := ⟨_, rfl⟩
  have hbY5 : Below w5.heap.size w5 Y5 := by rw [← hY5]; exact belowA _ _
  rw [hY5] at hz5
  have i0 := frozen_of (i := 0) hz5
  have i1 := frozen_of (i := 1) hz5
  have i2 := frozen_of (i := 2) hz5
  have l0 := cell_of (i := 0) hz5 rfl
  have l1 := cell_of (i := 1) hz5 rfl
  have l2 := cell_of (i := 2) hz5 rfl
  obtain ⟨X5, hX5⟩ : ∃ X, set3 Y5 w5.heap.size (.int .i64 0) (.slice none 0 0) (.bool false) = X := ⟨_, rfl⟩
  have hbX5 : Below w5.heap.size w5 X5 := by rw [← hX5]; exact hbY5.trans ((set3_fr Y5 w5.heap.size _ _ _ (fun k => k = w5.heap.size) rfl).below hbY5.size (fun k hk e => by omega))
  unfold set3 at hX5
  have hb35 : Below X3.heap.size X3 X5 := hb5.trans (hbX5.mono hb5.size)
  have hj5 := (hb35.block _ (block_lt HX3a.out)).trans HX3a.out
  have a0 := cell_of (i := 0) hj5 rfl
  have a1 := cell_of (i := 1) hj5 rfl
  have a2 := cell_of (i := 2) hj5 rfl
  have hi5 : X5.ownsRow b0 3 1 (.slice ip 2 ic) 2 (jbInts 2) := row_keep HI3.out fun j hj => hb35.block j (row_lt HI3.out j hj)
  obtain ⟨bi, oi, rfl, _, _, c0⟩ := Cl.at_ (Cl.of_own hi5 (by decide) (fun _ _ => trivial) (rfl : (jbInts 2).length = 2 * 1) : Cl X5 (fun _ => True) (.slice ip 2 ic) 2 (jbInts 2)) (j := 0) (x := .int .i64 1) rfl
  rw [Nat.add_zero] at c0
  have HB5 : Hid (Below w.heap.size w X5) := Lib.hid (HB3.out.trans (hb35.mono HB3.out.size))
  clear hb5 hz5 hbY5 hbX5 hb35 hj5 hi5 e0 e1 e2 e3 HPn
  go_wp2_with fail
  go_ret
  exact ⟨rfl, HB5.out⟩
end Go.Proofs.Yteclnnjijfbfoaa

/-
  The walk over glacierlaw9.CompactKeeps.
-/
namespace Go.Proofs.Yteclnnjijfbfoaa
open Go.RowKit

theorem SeenW.app {w1 w2 : World} {F : Nat → Prop} {o p : List Ent} {v' : Value} {us vs : List Value} (h1 : us.length = o.length) (h2 : vs.length = p.length) (h3 : ∀ (j : Nat) (e : Ent) (u : Value), o[j]? = some e → us[j]? = some u → By w1 F u e.val)
    (h4 : ∀ (j : Nat) (e : Ent) (u : Value), p[j]? = some e → vs[j]? = some u → By w1 F u e.val)
    (hr : w2.ownsRow w1.heap.size 33 4 v' (o.length + p.length) (cellsE o us ++ cellsE p vs)) (hb : Below w1.heap.size w1 w2) : SeenW w1 F (o ++ p) v' w2 := by
  refine ⟨us ++ vs, by simp [h1, h2], ?_, fun j x y hx hy => ?_, hb⟩
  · rw [List.length_append, cellsE_append _ _ _ _ h1]
    exact hr
  · by_cases hj : j < o.length
    · rw [List.getElem?_append_left hj] at hx
      rw [List.getElem?_append_left (by omega)] at hy
      exact h3 j x y hx hy
    · rw [List.getElem?_append_right (by omega)] at hx
      rw [List.getElem?_append_right (by omega), h1] at hy
      exact h4 _ x y hx hy
theorem take_snoc_mem (ls : List (List Ent)) (k : Nat) (h : k < ls.length) : ∀ x ∈ ls.take (k + 1), x ∈ ls.take k ∨ x = ls[k] := fun x hx => by
  rw [take_snoc ls k _ (List.getElem?_eq_getElem h)] at hx
  rcases List.mem_append.1 hx with hx | hx
  · exact .inl hx
  · exact .inr (List.mem_singleton.1 hx)
/-- The number up to which is looked. -/
theorem up_wrap (keep more : Nat) (hk : keep < 18446744073709551616) (hm : more < 18446744073709551616) (h : 18446744073709551616 ≤ keep + more) : IntKind.u64.wrap ((keep : Int) + (more : Int)) = ((keep + more - 18446744073709551616 : Nat) : Int) := by
  simp [IntKind.wrap, IntKind.bits, IntKind.signed]
  omega

set_option maxRecDepth 100000 in
set_option maxHeartbeats 4000000 in
theorem keeps_any (w : World) (keep more : Nat) (bot : Bool) (size : Int) (v : Value) (ls : List (List Ent)) (h : Els w (fun k => k < w.heap.size) v ls) (hf : ∀ l ∈ ls, ∀ x ∈ l, FitE x) (hl : ∀ l ∈ ls, l.length ≤ 1048576) (hk : keep < 18446744073709551616) (hm : more < 18446744073709551616) (hs1 : -9223372036854775808 ≤ size) (hs2 : size ≤ 9223372036854775807) :
    Calls Try.prog 3 #[.int .u64 (keep : Int), .int .u64 (more : Int), .bool bot, .int .i64 size, v] w fun x w' => x = .returned (.bool true) ∧ Below w.heap.size w w' := by
  have HK := Lib.hid (known9 w)
  obtain ⟨p, cap, rfl, hlc, hl47, hcm, _⟩ := h.form
  have HE := Lib.hid h
  have HF := Lib.hid hf
  have HL := Lib.hid hl
  have HKm := Lib.hid (And.intro hk hm)
  clear h hf hl hk hm
  go_enter Try.func3, Try.ntmps3
  go_wp2_with fail
  refine HK.out.mono ?_
  rintro x w1 ⟨rfl, hb1⟩
  have HB1 := Lib.hid hb1
  clear hb1 HK
  by_cases hbig : 20 < ls.length
  · have d1 : decide ((20 : Int) < (ls.length : Int)) = true := decide_eq_true (by omega)
    have d1n : decide (20 < ls.length) = true := decide_eq_true hbig
    clear hbig
    go_wp2_with fail
    go_ret
    exact ⟨rfl, HB1.out⟩
  · have d1 : decide ((20 : Int) < (ls.length : Int)) = false := decide_eq_false (by omega)
    have d1n : decide (20 < ls.length) = false := decide_eq_false hbig
    by_cases hsz : size < 1
    · have d2 : decide (size < 1) = true := decide_eq_true hsz
      clear hbig hsz
      go_wp2_with fail
      go_ret
      exact ⟨rfl, HB1.out⟩
    · have d2 : decide (size < 1) = false := decide_eq_false hsz
      have hfew : ls.length ≤ 20 := by omega
      have hsz1 : 1 ≤ size := by omega
      clear hbig hsz
      go_wp2_with fail
      go_loopw [11] (fun iv wr => ∃ k : Nat, k ≤ ls.length ∧ iv = .int .i64 (k : Int) ∧ Hid ((∀ l ∈ ls.take k, fewE l 300 = true ∧ rightE l = true) ∧ Below w.heap.size w wr)) (fun iv _ => ls.length - (intOf iv).toNat)
      case atStart => exact ⟨0, by omega, rfl, Lib.hid ⟨fun l hl => by simp at hl, HB1.out⟩⟩
      case round =>
        obtain ⟨k, hk, rfl, HR⟩ := hrel
        generalize wr = wz at *
        by_cases hlt : k < ls.length
        · have d3 : decide ((k : Int) < (ls.length : Int)) = true := decide_eq_true (by omega)
          have d3n : decide (k < ls.length) = true := decide_eq_true hlt
          obtain ⟨b, off, q, c, rfl, hbl, hc, hen⟩ := (HE.out.below HR.out.2).at_ (List.getElem?_eq_getElem hlt)
          have HTk := Lib.hid (take_snoc_mem ls k hlt)
          have HFw := Lib.hid (l5_few wz _ _ ls[k] hen (HF.out _ (List.getElem_mem hlt)) (HL.out _ (List.getElem_mem hlt)) 300)
          have HRg := Lib.hid (fun (V : World) (hV : Below wz.heap.size wz V) => r6_right V _ _ ls[k] (hen.below hV))
          have HCl := Lib.hid (fun (V : World) (hV : Below wz.heap.size wz V) => (below_cells hV b _ hbl).trans hc)
          obtain ⟨l, hl⟩ : ∃ l, ls[k] = l := ⟨_, rfl⟩
          rw [hl] at HFw HRg HCl HTk hc
          obtain ⟨fw, hfw⟩ : ∃ fw, fewE l 300 = fw := ⟨_, rfl⟩
          obtain ⟨rt, hrt⟩ : ∃ rt, rightE l = rt := ⟨_, rfl⟩
          have HLs : Hid (fewE l 300 = fw ∧ rightE l = rt) := Lib.hid ⟨hfw, hrt⟩
          rw [hfw] at HFw
          rw [hrt] at HRg
          clear hen hl hfw hrt
          generalize l.length = ll at *
          go_wp2_with fail
          refine HFw.out.mono ?_
          rintro x w2 ⟨rfl, n2, hw2⟩
          have HB2 : Hid (Below wz.heap.size wz w2) := Lib.hid (by rw [hw2]; exact below_drewN (Below.refl _ _) n2)
          have hc2 := HCl.out w2 HB2.out
          clear hw2 HFw hc
          cases fw
          · go_wp2_with fail
            go_ret
            exact ⟨rfl, HR.out.2.trans (HB2.out.mono HR.out.2.size)⟩
          · have HRg2 := Lib.hid (HRg.out w2 HB2.out)
            go_wp2_with fail
            refine HRg2.out.mono ?_
            rintro x w3 ⟨rfl, hb3⟩
            have HB3 : Hid (Below w.heap.size w w3) := Lib.hid (HR.out.2.trans ((HB2.out.trans (hb3.mono HB2.out.size)).mono HR.out.2.size))
            clear hb3 hc2 HRg HRg2
            cases rt
            · go_wp2_with fail
              go_ret
              exact ⟨rfl, HB3.out⟩
            · go_wp2_with fail
              go_roundw
              case rel => exact ⟨k + 1, by omega, by go_num, Lib.hid ⟨fun x hx => (HTk.out x hx).elim (fun h => HR.out.1 x h) (fun h => by rw [h]; exact HLs.out), HB3.out⟩⟩
              case measure => simp [intOf]; omega
        · obtain rfl : k = ls.length := by omega
          have d3 : decide ((ls.length : Int) < (ls.length : Int)) = false := by simp
          rw [List.take_length] at HR
          have hright : ∀ l ∈ ls, rightE l = true := fun l hl => (HR.out.1 l hl).2
          have hM : ∀ l ∈ ls, l.length ≤ 300 := fun l hl => by
            have h := (HR.out.1 l hl).1
            unfold fewE at h
            simp only [Bool.and_eq_true, decide_eq_true_eq] at h
            omega
          have hMr := mrgL_right hright
          have hsrt := (rightE_iff.1 hMr).2
          have hPr : rightE (prnE (mrgL ls) keep bot) = true := right_sub hMr (prn_sub _ _ _)
          have hfl := flat_le ls 300 hM
          have hfl2 : ls.length * 300 ≤ 20 * 300 := Nat.mul_le_mul_right _ hfew
          have hml : (mrgL ls).length ≤ 6000 := by
            have h3 := mrgL_len ls []
            simp only [List.length_nil] at h3
            unfold mrgL
            omega
          have hPl : (prnE (mrgL ls) keep bot).length ≤ 6000 := Nat.le_trans (prn_sub _ _ _).length_le hml
          have HSp := Lib.hid (fun (up : Nat) (hu : keep ≤ up) => seen_prn hsrt hu bot)
          have HRun := Lib.hid (run_any wz _ (.slice p ls.length cap) ls keep bot size (HE.out.below HR.out.2) hright HF.out hfew hM hsz1)
          have HMg := Lib.hid (fun (V : World) (hV : Below w.heap.size w V) => r6_merge V _ (.slice p ls.length cap) ls (HE.out.below hV) (by omega))
          have HRt := Lib.hid hright
          generalize mrgL ls = M at *
          generalize prnE M keep bot = P at *
          have HSM := Lib.hid (fun (V : World) (G : Nat → Prop) (u : Value) (hu : En V G u M) (up : Nat) => r6_seen V G u M hu hMr (by omega) up)
          have HSP := Lib.hid (fun (V : World) (G : Nat → Prop) (u : Value) (hu : En V G u P) (up : Nat) => r6_seen V G u P hu hPr (by omega) up)
          clear hright hM hMr hsrt hPr hfl hfl2 hml hk hlt
          go_wp2_with fail
          refine HRun.out.mono ?_
          rintro x w5 ⟨ps, pv, cv, rfl, hps, hels, hb5⟩
          have HB5 : Hid (Below w.heap.size w w5) := Lib.hid (HR.out.2.trans (hb5.mono HR.out.2.size))
          have hflat : ps.flatten = P := by rw [hps.flat, List.take_length]
          have hpl := hps.len
          have HFl := Lib.hid hflat
          have HPs := Lib.hid hps
          have HEl := Lib.hid hels
          clear hb5 hps hels hflat HRun d3
          go_wp2_with fail
          go_loopw [14, 15] (fun av iv wr => ∃ (k : Nat) (pa : Option Addr) (ca : Nat), k ≤ ps.length ∧ iv = .int .i64 (k : Int) ∧ av = .slice pa (ps.take k).flatten.length ca ∧ Hid (SeenW w5 (fun _ => True) (ps.take k).flatten (.slice pa (ps.take k).flatten.length ca) wr)) (fun _ iv _ => ps.length - (intOf iv).toNat)
          case atStart => exact ⟨0, none, 0, by omega, rfl, rfl, Lib.hid ⟨[], rfl, World.ownsRow_nil _ _ _ _, (fun j e u h => by simp at h), Below.refl _ _⟩⟩
          case round =>
            obtain ⟨k, pa, ca, hk, rfl, rfl, HSw⟩ := hrel
            generalize wr = wy at *
            by_cases hlt : k < ps.length
            · have d3 : decide ((k : Int) < (ps.length : Int)) = true := decide_eq_true (by omega)
              have d3n : decide (k < ps.length) = true := decide_eq_true hlt
              obtain ⟨us, hus, hrow, hvals, hby⟩ := HSw.out
              obtain ⟨b, off, qv, qc, rfl, hbl, hc5, hen⟩ := HEl.out.at_ (List.getElem?_eq_getElem hlt)
              have hc := (below_cells hby b _ hbl).trans hc5
              have hq0 := List.length_pos_iff.2 (HPs.out.ne ps[k] (List.getElem_mem hlt))
              have hfk : (ps.take (k + 1)).flatten = (ps.take k).flatten ++ ps[k] := by rw [take_snoc ps k _ (List.getElem?_eq_getElem hlt), List.flatten_append, List.flatten_cons, List.flatten_nil, List.append_nil]
              have hfll : (ps.take (k + 1)).flatten.length ≤ P.length := by
                have h3 : (ps.take (k + 1)).flatten.length + (ps.drop (k + 1)).flatten.length = ps.flatten.length := by rw [← List.length_append, ← List.flatten_append, List.take_append_drop]
                rw [HFl.out] at h3
                omega
              rw [hfk, List.length_append] at hfll
              obtain ⟨uq, hu⟩ := hen
              have HCl : Hid (Cl wy (fun _ => True) (.slice qv ps[k].length qc) ps[k].length (cellsE ps[k] uq)) := Lib.hid (Cl.below hu.cl hby)
              have HU := Lib.hid hu
              have HFk := Lib.hid hfk
              have HRow := Lib.hid hrow
              have HUs := Lib.hid (And.intro hus hvals)
              have HBy := Lib.hid hby
              have hbs := hby.size
              obtain ⟨b1, o1, q1, c1, hqp, _, _, y0⟩ := (show En wy (fun _ => True) (.slice qv ps[k].length qc) ps[k] from En.below ⟨uq, hu⟩ hby).at_ (k := 0) (List.getElem?_eq_getElem hq0)
              have e0 := y0.2.1
              rw [Nat.zero_mul, Nat.add_zero] at e0
              have hprev : k = 0 ∨ ∃ (hk0 : 0 < k) (b2 o2 : Nat) (rl : Nat) (rc : Nat) (la : List UInt8), (0 < rl ∧ rl ≤ 6000) ∧ wy.cell? ⟨b, off + (k - 1), none⟩ = some (.slice (some ⟨b2, o2, none⟩) rl rc) ∧ wy.cell? ⟨b2, o2 + (rl - 1) * 4, none⟩ = some (.string ⟨la.toArray⟩) ∧ Op.bytesLess la (ps[k][0]'hq0).key = true := by
                rcases Nat.eq_zero_or_pos k with h | h
                · exact .inl h
                · right
                  have hk1 : k - 1 < ps.length := by omega
                  obtain ⟨b3, off3, rv, rc, hp3, hbl3, hc3, hen3⟩ := HEl.out.at_ (List.getElem?_eq_getElem hk1)
                  obtain ⟨rfl, rfl⟩ : b = b3 ∧ off = off3 := by simpa using hp3
                  have hr0 := List.length_pos_iff.2 (HPs.out.ne ps[k - 1] (List.getElem_mem hk1))
                  obtain ⟨b4, o4, q4, c4, rfl, hb4, _, y4⟩ := (hen3.below hby).at_ (k := ps[k - 1].length - 1) (List.getElem?_eq_getElem (by omega))
                  have hsep := HPs.out.sep (k - 1) ps[k - 1] ps[k] (List.getElem?_eq_getElem hk1) (by rw [show k - 1 + 1 = k by omega]; exact List.getElem?_eq_getElem hlt)
                  rw [laY_at hr0, hdY_at hq0] at hsep
                  have hr6 : ps[k - 1].length ≤ 6000 := by
                    have h3 := (List.sublist_flatten_of_mem (List.getElem_mem hk1 : ps[k - 1] ∈ ps)).length_le
                    rw [HFl.out] at h3
                    omega
                  exact ⟨h, b4, o4, _, rc, _, ⟨hr0, hr6⟩, (below_cells hby b _ hbl3).trans hc3, y4.2.1, hsep⟩
              obtain ⟨hd, hhd⟩ : ∃ hd, (ps[k][0]'hq0).key = hd := ⟨_, rfl⟩
              rw [hhd] at e0 hprev
              have HPv := Lib.hid hprev
              have HOne := Lib.hid (cellsE_one ps[k] uq hu.ones)
              have hql1 : ((ps[k].length : Int) == 0) = false := by rw [beq_eq_false_iff_ne]; omega
              have hql2 : (ps[k].length == 0) = false := by rw [beq_eq_false_iff_ne]; omega
              have hql3 : (0 : Int) < (ps[k].length : Int) := by omega
              obtain ⟨Q, hQ⟩ : ∃ Q, ps[k] = Q := ⟨_, rfl⟩
              rw [hQ] at hc hfll HCl HU HFk hql1 hql2 hql3 HOne hq0
              clear hus hrow hvals hfk hu hhd hprev hby y0 hQ hc5
              subst hqp
              generalize (ps.take k).flatten = o at *
              go_wp2_with fail
              go_upto_region 17 with (fail)
              go_cut [102] (fun sl wx => sl = .bool false ∧ Below wy.heap.size wy wx)
              case first =>
                rcases HPv.out with hk0 | ⟨hk0, b2, o2, rl, rc, la, ⟨hrl, hrl6⟩, g0, g1, g2⟩
                · have d4 : decide ((0 : Int) < (k : Int)) = false := decide_eq_false (by omega)
                  have d4n : decide (0 < k) = false := decide_eq_false (by omega)
                  clear hk0
                  go_quiet (fail)
                  go_wp2_with fail
                  go_meet
                  exact ⟨rfl, below_drewN (Below.refl _ _) _⟩
                · have d4 : decide ((0 : Int) < (k : Int)) = true := decide_eq_true (by omega)
                  have d4n : decide (0 < k) = true := decide_eq_true hk0
                  have hw1 : IntKind.i64.wrap ((k : Int) - 1) = (k : Int) - 1 := IntWalk.i64_in _ (by omega)
                  have hw2 : IntKind.i64.wrap ((rl : Int) - 1) = (rl : Int) - 1 := IntWalk.i64_in _ (by omega)
                  have h01 : (0 : Int) ≤ (k : Int) - 1 := by omega
                  have h02 : ((k : Int) - 1).toNat = k - 1 := by omega
                  have h03 : (k : Int) - 1 < (ps.length : Int) := by omega
                  have h04 : (0 : Int) ≤ (rl : Int) - 1 := by omega
                  have h05 : ((rl : Int) - 1).toNat = rl - 1 := by omega
                  have h06 : (rl : Int) - 1 < (rl : Int) := by omega
                  go_quiet (fail)
                  go_wp2_with fail
                  go_meet
                  exact ⟨rfl, below_drewN (Below.refl _ _) _⟩
              case rest =>
                obtain ⟨rfl, hbc⟩ := hcut
                generalize wc = wx at *
                have HBx : Hid (Below w5.heap.size w5 wx) := Lib.hid (HBy.out.trans (hbc.mono HBy.out.size))
                have HRx : Hid (wx.ownsRow w5.heap.size 33 4 (.slice pa o.length ca) o.length (cellsE o us)) := Lib.hid (row_keep HRow.out fun j hj => hbc.block j (row_lt HRow.out j hj))
                have HCx : Hid (Cl wx (fun _ => True) (.slice (some ⟨b1, o1, none⟩) Q.length qc) Q.length (cellsE Q uq)) := Lib.hid (HCl.out.below hbc)
                have hcx := (below_cells hbc b _ (Nat.lt_of_lt_of_le hbl HBy.out.size)).trans hc
                have HLq := Lib.hid (cellsE_length Q uq HU.out.len)
                have HSum : Hid (o.length + Q.length ≤ 68719476736) := Lib.hid (by omega)
                have hwk : IntKind.i64.wrap ((k : Int) + 1) = (k : Int) + 1 := IntWalk.i64_in _ (by omega)
                have HKk := Lib.hid hfll
                clear hbc hc hfll d3 d3n
                go_wp2_with (at_builtin
                             refine slEnt.wpList_append rfl (.tmp 103) (.tmp 107) rfl w5.heap.size (v := .slice pa o.length ca) (u := .slice (some ⟨b1, o1, none⟩) Q.length qc) rfl rfl HRx.out HCx.out HLq.out HOne.out HSum.out HBx.out.size ?_
                             intro y3 w3 ho3 hg3 ha3
                             have HSn : Hid (SeenW w5 (fun _ => True) (o ++ Q) y3 w3) := Lib.hid (SeenW.app HUs.out.1 HU.out.len HUs.out.2 HU.out.val ho3 (HBx.out.grown (by exact hg3) HBx.out.size (row_low HRx.out)))
                             obtain ⟨p3, c3, rfl, _, _⟩ := row_shape ho3
                             clear ho3 hg3 ha3)
                go_roundw
                case rel => exact ⟨k + 1, p3, c3, by omega, by go_num, by rw [HFk.out, List.length_append], Lib.hid (by rw [HFk.out, List.length_append]; exact HSn.out)⟩
                case measure => simp [intOf]; omega
            · obtain rfl : k = ps.length := by omega
              have d3 : decide ((ps.length : Int) < (ps.length : Int)) = false := by simp
              rw [List.take_length, HFl.out] at HSw
              obtain ⟨us, hus, hrow, hvals, hby⟩ := HSw.out
              have HBy : Hid (Below w5.heap.size w5 wy) := Lib.hid hby
              have HEa : Hid (En wy (fun _ => True) (.slice pa P.length ca) P) := Lib.hid ⟨us, hus, Cl.of_own hrow (by omega) (fun _ _ => trivial) (cellsE_length _ _ hus), fun j e u h1 h2 => (hvals j e u h1 h2).below hby⟩
              have HB6 : Hid (Below w.heap.size w wy) := Lib.hid (HB5.out.trans (hby.mono HB5.out.size))
              rw [List.take_length, HFl.out]
              clear hus hrow hvals hby HSw
              have hkk := HKm.out.1
              have hmm := HKm.out.2
              obtain ⟨uw, huw, hu1, hu2⟩ : ∃ uw : Nat, IntKind.u64.wrap ((keep : Int) + (more : Int)) = (uw : Int) ∧ uw < 18446744073709551616 ∧ True := by
                by_cases hov : keep + more < 18446744073709551616
                · exact ⟨keep + more, by rw [IntWalk.u64_in _ (by omega)]; omega, hov, trivial⟩
                · exact ⟨_, up_wrap keep more hkk hmm (by omega), by omega, trivial⟩
              by_cases hov : uw < keep
              · have d5 : decide ((uw : Int) < (keep : Int)) = true := decide_eq_true (by omega)
                have d5n : decide (uw < keep) = true := decide_eq_true hov
                have HUp : Hid (keep ≤ keep) := Lib.hid (Nat.le_refl _)
                clear hov
                go_wp2_with fail
                refine (HMg.out wy HB6.out).mono ?_
                rintro x w7 ⟨hb7, ⟨_, um, rfl, hem⟩ | ⟨⟨l, hl, hl2⟩, _⟩⟩
                case inr => rw [HRt.out l hl] at hl2; cases hl2
                have HB7 : Hid (Below w.heap.size w w7) := Lib.hid (HB6.out.trans (hb7.mono HB6.out.size))
                have HEa7 := Lib.hid (HEa.out.below hb7)
                have HEm := Lib.hid hem
                clear hb7 hem
                go_wp2_with fail
                refine (HSM.out w7 _ um HEm.out _).mono ?_
                rintro x w8 ⟨ua, rfl, hea, hb8⟩
                have HB8 : Hid (Below w.heap.size w w8) := Lib.hid (HB7.out.trans (hb8.mono HB7.out.size))
                have HEa8 := Lib.hid (HEa7.out.below hb8)
                have HE1 := Lib.hid hea
                clear hb8 hea
                go_wp2_with fail
                refine (HSP.out w8 _ _ HEa8.out _).mono ?_
                rintro x w9 ⟨ub, rfl, heb, hb9⟩
                have HB9 : Hid (Below w.heap.size w w9) := Lib.hid (HB8.out.trans (hb9.mono HB8.out.size))
                have HSame := Lib.hid (l5_sameRows w9 _ _ _ _ _ _ (HE1.out.below hb9) heb)
                rw [HSp.out _ HUp.out, sameL_iff.2 rfl] at HSame
                clear hb9 heb
                go_wp2_with fail
                refine HSame.out.mono ?_
                rintro x w10 ⟨rfl, hb10⟩
                go_wp2_with fail
                go_ret
                exact ⟨rfl, HB9.out.trans (hb10.mono HB9.out.size)⟩
              · have d5 : decide ((uw : Int) < (keep : Int)) = false := decide_eq_false (by omega)
                have d5n : decide (uw < keep) = false := decide_eq_false hov
                have HUp : Hid (keep ≤ uw) := Lib.hid (by omega)
                clear hov
                go_wp2_with fail
                refine (HMg.out wy HB6.out).mono ?_
                rintro x w7 ⟨hb7, ⟨_, um, rfl, hem⟩ | ⟨⟨l, hl, hl2⟩, _⟩⟩
                case inr => rw [HRt.out l hl] at hl2; cases hl2
                have HB7 : Hid (Below w.heap.size w w7) := Lib.hid (HB6.out.trans (hb7.mono HB6.out.size))
                have HEa7 := Lib.hid (HEa.out.below hb7)
                have HEm := Lib.hid hem
                clear hb7 hem
                go_wp2_with fail
                refine (HSM.out w7 _ um HEm.out _).mono ?_
                rintro x w8 ⟨ua, rfl, hea, hb8⟩
                have HB8 : Hid (Below w.heap.size w w8) := Lib.hid (HB7.out.trans (hb8.mono HB7.out.size))
                have HEa8 := Lib.hid (HEa7.out.below hb8)
                have HE1 := Lib.hid hea
                clear hb8 hea
                go_wp2_with fail
                refine (HSP.out w8 _ _ HEa8.out _).mono ?_
                rintro x w9 ⟨ub, rfl, heb, hb9⟩
                have HB9 : Hid (Below w.heap.size w w9) := Lib.hid (HB8.out.trans (hb9.mono HB8.out.size))
                have HSame := Lib.hid (l5_sameRows w9 _ _ _ _ _ _ (HE1.out.below hb9) heb)
                rw [HSp.out _ HUp.out, sameL_iff.2 rfl] at HSame
                clear hb9 heb
                go_wp2_with fail
                refine HSame.out.mono ?_
                rintro x w10 ⟨rfl, hb10⟩
                go_wp2_with fail
                go_ret
                exact ⟨rfl, HB9.out.trans (hb10.mono HB9.out.size)⟩
end Go.Proofs.Yteclnnjijfbfoaa
