import Derived.Test.YteclnnjijfbfoaaGCa
import Derived.Lib.MinMaxS
import Derived.Test.YteclnnjijfbfoaaMgA
import Derived.Test.YteclnnjijfbfoaaGCb
import Derived.Laws.Externs

/-
  compact.around of any tables, one at least.
-/
namespace Go.Proofs.Yteclnnjijfbfoaa
open Go.RowKit

def minY (a b : List UInt8) : List UInt8 := (Lib.minS ⟨a.toArray⟩ ⟨b.toArray⟩).data.toList
def maxY (a b : List UInt8) : List UInt8 := (Lib.maxS ⟨a.toArray⟩ ⟨b.toArray⟩).data.toList
theorem back_str (x : ByteArray) : (⟨x.data.toList.toArray⟩ : ByteArray) = x := by cases x; simp
theorem min_y (W : World) (a b : List UInt8) : (Builtin.min_ #[9, 9] 9 #[.string ⟨a.toArray⟩, .string ⟨b.toArray⟩]).run Try.prog W = .ok (.string ⟨(minY a b).toArray⟩) W := by
  unfold minY
  rw [back_str]
  exact Lib.run_min_strs W _ _ _ _
theorem max_y (W : World) (a b : List UInt8) : (Builtin.max_ #[9, 9] 9 #[.string ⟨a.toArray⟩, .string ⟨b.toArray⟩]).run Try.prog W = .ok (.string ⟨(maxY a b).toArray⟩) W := by
  unfold maxY
  rw [back_str]
  exact Lib.run_max_strs W _ _ _ _
/-- The stretch, from table to table. -/
def st1 (s : List UInt8 × List UInt8) (t : Tab) : List UInt8 × List UInt8 := (minY s.1 t.first, maxY s.2 t.last)
def stS (t0 : Tab) (l : List Tab) : List UInt8 × List UInt8 := l.foldl st1 (t0.first, t0.last)
theorem stS_snoc (t0 : Tab) (l : List Tab) (k : Nat) (h : k < l.length) : stS t0 (l.take (k + 1)) = st1 (stS t0 (l.take k)) l[k] := by
  unfold stS
  rw [take_snoc l k _ (List.getElem?_eq_getElem h), List.foldl_append]
  rfl

set_option maxRecDepth 100000 in
set_option maxHeartbeats 4000000 in
theorem around_any (w : World) (F : Nat → Prop) (q : Option Addr) (c : Nat) (ts : List Tab) (t0 : Tab) (h : TsM w F (.slice q ts.length c) ts) (h0 : ts[0]? = some t0) (hl : ts.length ≤ 1048576) :
    Calls Try.prog 42 #[.slice q ts.length c] w fun x w' => x = .returned (.agg #[.string ⟨(stS t0 ts).1.toArray⟩, .string ⟨(stS t0 ts).2.toArray⟩]) ∧ Below w.heap.size w w' := by
  have HV := Lib.hid h
  obtain ⟨b1, off1, rfl, hbl, _, _, e2, e3, _⟩ := h.at_ h0
  have hpos : (0 : Int) < (ts.length : Int) := by
    rcases Nat.eq_zero_or_pos ts.length with h5 | h5
    · rw [List.length_eq_zero_iff] at h5
      subst h5
      simp at h0
    · omega
  have hcut0 : stS t0 [] = (t0.first, t0.last) := rfl
  have HC0 := Lib.hid hcut0
  clear hcut0 h0
  obtain ⟨sa, hsa⟩ : ∃ a, t0.first = a := ⟨_, rfl⟩
  obtain ⟨sz, hsz⟩ : ∃ a, t0.last = a := ⟨_, rfl⟩
  rw [hsa] at e2 HC0
  rw [hsz] at e3 HC0
  clear hsa hsz
  have hz := heap_alloc_new w (.cells #[.string ⟨#[]⟩, .string ⟨#[]⟩] 92)
  obtain ⟨Y, hY⟩ : ∃ Y, w.alloc (.cells #[.string ⟨#[]⟩, .string ⟨#[]⟩] 92) = Y := ⟨_, rfl⟩
  have hbY : Below w.heap.size w Y := by rw [← hY]; exact belowA _ _
  rw [hY] at hz
  have HYz := Lib.hid hz
  have HBY := Lib.hid hbY
  have d2 := (below_cells hbY b1 _ hbl).trans e2
  have d3 := (below_cells hbY b1 _ hbl).trans e3
  rw [Nat.zero_mul, Nat.add_zero] at d2 d3
  have hYs := block_lt hz
  clear h hz hbY e2 e3
  go_enter Try.func42, Try.ntmps42
  go_upto_region 1 with (fail)
  go_cut [3] (fun v wx => ∃ g, v = .pointer (some ⟨g, 0, none⟩) ∧ wx.heap[w.heap.size]? = some (.cells #[.string ⟨#[]⟩, .string ⟨#[]⟩] 92 (0, 0)) ∧ wx.heap[g]? = some (.cells #[.string ⟨sa.toArray⟩, .string ⟨sz.toArray⟩] 92 (0, 0)) ∧ g ≠ w.heap.size ∧ w.heap.size ≤ g ∧ Below w.heap.size w wx)
  case first =>
    have hza := heap_alloc_new Y (.cells #[.string ⟨#[]⟩, .string ⟨#[]⟩] 92)
    have hbZ : Below Y.heap.size Y (Y.alloc (.cells #[.string ⟨#[]⟩, .string ⟨#[]⟩] 92)) := belowA _ _
    have z2 := (below_cells hbZ b1 _ (Nat.lt_of_lt_of_le hbl HBY.out.size)).trans d2
    have z3 := (below_cells hbZ b1 _ (Nat.lt_of_lt_of_le hbl HBY.out.size)).trans d3
    have f0 := frozen_of (i := 0) hza
    have f1 := frozen_of (i := 1) hza
    have u0 := cell_of (i := 0) hza rfl
    have u1 := cell_of (i := 1) hza rfl
    have HW : Hid (∀ (a b : Value), (Y.alloc (.cells #[a, b] 92)).heap[w.heap.size]? = some (.cells #[.string ⟨#[]⟩, .string ⟨#[]⟩] 92 (0, 0)) ∧ (Y.alloc (.cells #[a, b] 92)).heap[Y.heap.size]? = some (.cells #[a, b] 92 (0, 0)) ∧ Below w.heap.size w (Y.alloc (.cells #[a, b] 92))) := Lib.hid (fun a b =>
      ⟨(alloc_old hYs _).trans HYz.out, heap_alloc_new Y _, HBY.out.alloc HBY.out.size _⟩)
    clear hza hbZ
    go_region
    all_goals
      go_wp2_with fail
      go_meet
      exact ⟨Y.heap.size, rfl, (HW.out _ _).1, (HW.out _ _).2.1, by omega, HBY.out.size, below_drew (HW.out _ _).2.2⟩
  case rest =>
    obtain ⟨g, rfl, hg0, hg1, hgn, hgg, hbc⟩ := hcut
    generalize wc = wA at *
    clear d2 d3 hY
    have HSt : Hid (wA.heap[w.heap.size]? = some (.cells #[.string ⟨#[]⟩, .string ⟨#[]⟩] 92 (0, 0)) ∧ wA.heap[g]? = some (.cells #[.string ⟨(stS t0 (ts.take 0)).1.toArray⟩, .string ⟨(stS t0 (ts.take 0)).2.toArray⟩] 92 (0, 0)) ∧ Below w.heap.size w wA) := Lib.hid ⟨hg0, by rw [List.take_zero, HC0.out]; exact hg1, hbc⟩
    clear hg0 hg1 hbc
    go_wp2_with fail
    go_loopw [17] (fun iv wr => ∃ k : Nat, k ≤ ts.length ∧ iv = .int .i64 (k : Int) ∧ Hid (wr.heap[w.heap.size]? = some (.cells #[.string ⟨#[]⟩, .string ⟨#[]⟩] 92 (0, 0)) ∧ wr.heap[g]? = some (.cells #[.string ⟨(stS t0 (ts.take k)).1.toArray⟩, .string ⟨(stS t0 (ts.take k)).2.toArray⟩] 92 (0, 0)) ∧ Below w.heap.size w wr)) (fun iv _ => ts.length - (intOf iv).toNat)
    case atStart => exact ⟨0, by omega, rfl, HSt⟩
    case round =>
      obtain ⟨k, hk, rfl, HR⟩ := hrel
      generalize wr = wz at *
      by_cases hlt : k < ts.length
      · obtain ⟨b2, off2, hp2, hb2, e0, e1, e2, e3, e4⟩ := (HV.out.below HR.out.2.2).at_ (List.getElem?_eq_getElem hlt)
        obtain ⟨rfl, rfl⟩ : b1 = b2 ∧ off1 = off2 := by simpa using hp2
        clear hp2
        have HSn := Lib.hid (stS_snoc t0 ts k hlt)
        have d5 : decide ((k : Int) < (ts.length : Int)) = true := decide_eq_true (by omega)
        obtain ⟨x, hx⟩ : ∃ x, ts[k] = x := ⟨_, rfl⟩
        rw [hx] at e0 e1 e2 e3 e4 HSn
        clear hx
        obtain ⟨xf, xl, xa, xz, xs⟩ := x
        dsimp only at e0 e1 e2 e3 e4 HSn
        obtain ⟨s, hs⟩ : ∃ s, stS t0 (ts.take k) = s := ⟨_, rfl⟩
        rw [hs] at HR HSn
        clear hs
        obtain ⟨ya, yz⟩ := s
        dsimp only at HR
        have hz := heap_alloc_new wz (.cells #[.int .i64 0, .int .i64 0, .string ⟨#[]⟩, .string ⟨#[]⟩, .int .i64 0] 49)
        obtain ⟨V, hV⟩ : ∃ Y, wz.alloc (.cells #[.int .i64 0, .int .i64 0, .string ⟨#[]⟩, .string ⟨#[]⟩, .int .i64 0] 49) = Y := ⟨_, rfl⟩
        have hbV : Below wz.heap.size wz V := by rw [← hV]; exact belowA _ _
        rw [hV] at hz
        have f0 := frozen_of (i := 0) hz
        have f1 := frozen_of (i := 1) hz
        have f2 := frozen_of (i := 2) hz
        have f3 := frozen_of (i := 3) hz
        have f4 := frozen_of (i := 4) hz
        have u0 := cell_of (i := 0) hz rfl
        have u1 := cell_of (i := 1) hz rfl
        have u2 := cell_of (i := 2) hz rfl
        have u3 := cell_of (i := 3) hz rfl
        have u4 := cell_of (i := 4) hz rfl
        obtain ⟨X, hX⟩ : ∃ X, set5 V wz.heap.size (.int .i64 xf) (.int .i64 xl) (.string ⟨xa.toArray⟩) (.string ⟨xz.toArray⟩) (.int .i64 xs) = X := ⟨_, rfl⟩
        have hbX : Below wz.heap.size wz X := by rw [← hX]; exact hbV.trans ((set5_fr V wz.heap.size _ _ _ _ _ (fun k => k = wz.heap.size) rfl).below hbV.size (fun k hk e => by omega))
        have hXa : X.heap[wz.heap.size]? = some (.cells #[(.int .i64 xf), (.int .i64 xl), (.string ⟨xa.toArray⟩), (.string ⟨xz.toArray⟩), (.int .i64 xs)] 49 (0, 0)) := by rw [← hX]; exact set5_heap hz _ _ _ _ _
        unfold set5 at hX
        have x0 := cell_of (i := 0) hXa rfl
        have x1 := cell_of (i := 1) hXa rfl
        have x2 := cell_of (i := 2) hXa rfl
        have x3 := cell_of (i := 3) hXa rfl
        have x4 := cell_of (i := 4) hXa rfl
        have hgX := (hbX.block _ (block_lt HR.out.2.1)).trans HR.out.2.1
        have hrX := (hbX.block _ (block_lt HR.out.1)).trans HR.out.1
        have s0 := cell_of (i := 0) hgX rfl
        have s1 := cell_of (i := 1) hgX rfl
        have z0 := frozen_of (i := 0) hgX
        have z1 := frozen_of (i := 1) hgX
        have HX := Lib.hid (And.intro hrX (And.intro hgX (HR.out.2.2.trans (hbX.mono HR.out.2.2.size))))
        clear hz hbV hbX hXa hgX hrX
        have mn := fun W => min_y W ya xa
        have mx := fun W => max_y W yz xz
        go_wp2_with fail
        go_roundw
        case rel =>
          refine ⟨k + 1, by omega, by go_num, Lib.hid ?_⟩
          rw [HSn.out]
          have q1 := setCell_same (off := 0) HX.out.2.1 (.string ⟨(minY ya xa).toArray⟩)
          have q2 := setCell_same (off := 1) q1 (.string ⟨(maxY yz xz).toArray⟩)
          exact ⟨(setCell_other hgn.symm _).trans ((setCell_other hgn.symm _).trans HX.out.1), by simpa [st1] using q2, (HX.out.2.2.setCell (p := ⟨g, 0, none⟩) hgg _).setCell (p := ⟨g, 1, none⟩) hgg _⟩
        case measure => simp [intOf]; omega
      · obtain rfl : k = ts.length := by omega
        have d5 : decide ((ts.length : Int) < (ts.length : Int)) = false := by simp
        rw [List.take_length] at HR
        obtain ⟨s, hs⟩ : ∃ s, stS t0 ts = s := ⟨_, rfl⟩
        rw [hs] at HR
        obtain ⟨ya, yz⟩ := s
        dsimp only at HR
        have HS := Lib.hid hs
        clear hs
        have hr := HR.out.1
        have hg := HR.out.2.1
        have s0 := cell_of (i := 0) hg rfl
        have s1 := cell_of (i := 1) hg rfl
        have z0 := frozen_of (i := 0) hr
        have z1 := frozen_of (i := 1) hr
        have y0 := cell_of (i := 0) hr rfl
        have y1 := cell_of (i := 1) hr rfl
        clear hr hg
        go_wp2_with fail
        have q1 := setCell_same (off := 0) HR.out.1 (.string ⟨ya.toArray⟩)
        have q2 := setCell_same (off := 1) q1 (.string ⟨yz.toArray⟩)
        refine bodyPost_ret (v := .agg #[.string ⟨ya.toArray⟩, .string ⟨yz.toArray⟩]) (results_str2 rfl _ _ w.heap.size _ rfl (by simpa using q2) rfl) rfl ⟨by rw [HS.out], ?_⟩
        exact (HR.out.2.2.setCell (p := ⟨w.heap.size, 0, none⟩) (Nat.le_refl _) _).setCell (p := ⟨w.heap.size, 1, none⟩) (Nat.le_refl _) _
end Go.Proofs.Yteclnnjijfbfoaa

/-
  The walks over compact's stretch.shares, own.
-/
namespace Go.Proofs.Yteclnnjijfbfoaa
open Go.RowKit

def leY (a b : List UInt8) : Bool := Op.bytesLess a b || a == b
def shY (s : List UInt8 × List UInt8) (t : Tab) : Bool := leY t.first s.2 && leY s.1 t.last

set_option maxRecDepth 100000 in
set_option maxHeartbeats 4000000 in
theorem shares_any (w : World) (sa sz xa xz : List UInt8) (xf xl xs : Int) :
    Calls Try.prog 44 #[.agg #[.string ⟨sa.toArray⟩, .string ⟨sz.toArray⟩], .agg #[.int .i64 xf, .int .i64 xl, .string ⟨xa.toArray⟩, .string ⟨xz.toArray⟩, .int .i64 xs]] w
      fun x w' => x = .returned (.bool (shY (sa, sz) ⟨xf, xl, xa, xz, xs⟩)) ∧ Below w.heap.size w w' := by
  have hz0 := heap_alloc_new w (.cells #[.string ⟨sa.toArray⟩, .string ⟨sz.toArray⟩] 92)
  obtain ⟨X, hX⟩ : ∃ X, w.alloc (.cells #[.string ⟨sa.toArray⟩, .string ⟨sz.toArray⟩] 92) = X := ⟨_, rfl⟩
  have hbX : Below w.heap.size w X := by rw [← hX]; exact belowA _ _
  rw [hX] at hz0
  have hz1 := heap_alloc_new X (.cells #[.int .i64 xf, .int .i64 xl, .string ⟨xa.toArray⟩, .string ⟨xz.toArray⟩, .int .i64 xs] 49)
  obtain ⟨Y, hY⟩ : ∃ Y, X.alloc (.cells #[.int .i64 xf, .int .i64 xl, .string ⟨xa.toArray⟩, .string ⟨xz.toArray⟩, .int .i64 xs] 49) = Y := ⟨_, rfl⟩
  have hbY : Below X.heap.size X Y := by rw [← hY]; exact belowA _ _
  rw [hY] at hz1
  have hz0Y := (hbY.block _ (block_lt hz0)).trans hz0
  have s0 := cell_of (i := 0) hz0Y rfl
  have s1 := cell_of (i := 1) hz0Y rfl
  have t2 := cell_of (i := 2) hz1 rfl
  have t3 := cell_of (i := 3) hz1 rfl
  have HB : Hid (Below w.heap.size w Y) := Lib.hid (hbX.trans (hbY.mono hbX.size))
  clear hz0 hz1 hz0Y hbX hbY
  obtain ⟨b1, h1⟩ : ∃ b, Op.bytesLess xa sz = b := ⟨_, rfl⟩
  obtain ⟨b2, h2⟩ : ∃ b, (xa == sz) = b := ⟨_, rfl⟩
  obtain ⟨b3, h3⟩ : ∃ b, Op.bytesLess sa xz = b := ⟨_, rfl⟩
  obtain ⟨b4, h4⟩ : ∃ b, (sa == xz) = b := ⟨_, rfl⟩
  have HR : Hid (shY (sa, sz) ⟨xf, xl, xa, xz, xs⟩ = ((b1 || b2) && (b3 || b4))) := Lib.hid (by unfold shY leY; simp only [h1, h2, h3, h4])
  rw [HR.out]
  clear HR
  cases b1 <;> cases b2 <;> cases b3 <;> cases b4
  all_goals
    go_enter Try.func44, Try.ntmps44
    go_wp2_with fail
    go_ret
    exact ⟨rfl, HB.out⟩
end Go.Proofs.Yteclnnjijfbfoaa

/-
  The walk over compact.own: a table whose texts are its own.
-/
namespace Go.Proofs.Yteclnnjijfbfoaa
open Go.RowKit

theorem results_tab {fn : Func} {p : Tmp} (h : fn.results = #[.cell p 49]) (tmps : Array Value) (w : World) (g : Nat) (cs : Array Value) (hp : tmps.getD p undef = .pointer (some ⟨g, 0, none⟩))
    (hg : w.heap[g]? = some (.cells cs 49 (0, 0))) (hs : cs.size = 5) : (results fn tmps).run Try.prog w = .ok (.agg cs) w :=
  results_cell_row h tmps w g _ cs (0, 0) _ hp hg Try.underlying49 rfl (by rw [hs]; kernel_rfl)

/-- The two boxes of own, as they are all along. -/
def OwT (w : World) (cs : Array Value) (V : World) : Prop :=
  V.heap[w.heap.size]? = some (.cells cs 49 (0, 0)) ∧ V.heap[w.heap.size + 1]? = some (.cells #[.int .i64 0, .int .i64 0, .string ⟨#[]⟩, .string ⟨#[]⟩, .int .i64 0] 49 (0, 0)) ∧ Below w.heap.size w V
theorem OwT.call {w V V' : World} {cs : Array Value} (h : OwT w cs V) (hb : Below V.heap.size V V') : OwT w cs V' :=
  ⟨(hb.block _ (block_lt h.1)).trans h.1, (hb.block _ (block_lt h.2.1)).trans h.2.1, h.2.2.trans (hb.mono h.2.2.size)⟩
theorem OwT.set {w V : World} {cs : Array Value} (h : OwT w cs V) (i : Nat) (x : Value) (hx : cs.setIfInBounds i x = cs) : OwT w cs (V.setCell ⟨w.heap.size, i, none⟩ x) :=
  ⟨by rw [setCell_same h.1 x, hx], (setCell_other (by omega) _).trans h.2.1, h.2.2.setCell (p := ⟨w.heap.size, i, none⟩) (Nat.le_refl _) _⟩
theorem OwT.drew {w V : World} {cs : Array Value} (h : OwT w cs V) : OwT w cs V.drew := ⟨h.1, h.2.1, below_drew h.2.2⟩

set_option maxRecDepth 100000 in
set_option maxHeartbeats 4000000 in
theorem town_any (w : World) (xa xz : List UInt8) (xf xl xs : Int) (ha : xa.length ≤ 281474976710656) (hz : xz.length ≤ 281474976710656) :
    Calls Try.prog 58 #[.agg #[.int .i64 xf, .int .i64 xl, .string ⟨xa.toArray⟩, .string ⟨xz.toArray⟩, .int .i64 xs]] w
      fun x w' => x = .returned (.agg #[.int .i64 xf, .int .i64 xl, .string ⟨xa.toArray⟩, .string ⟨xz.toArray⟩, .int .i64 xs]) ∧ Below w.heap.size w w' := by
  obtain ⟨X, hX⟩ : ∃ X, (w.alloc (.cells #[.int .i64 xf, .int .i64 xl, .string ⟨xa.toArray⟩, .string ⟨xz.toArray⟩, .int .i64 xs] 49)).alloc (.cells #[.int .i64 0, .int .i64 0, .string ⟨#[]⟩, .string ⟨#[]⟩, .int .i64 0] 49) = X := ⟨_, rfl⟩
  have hw : OwT w #[.int .i64 xf, .int .i64 xl, .string ⟨xa.toArray⟩, .string ⟨xz.toArray⟩, .int .i64 xs] X := by
    rw [← hX]
    exact ⟨(alloc_old (by simp) _).trans (heap_alloc_new w _), heap_alloc2_new w _ _, ((Below.refl _ _).alloc (Nat.le_refl _) _).alloc (by simp) _⟩
  have HW := Lib.hid hw
  have x2 := cell_of (i := 2) hw.1 rfl
  have x3 := cell_of (i := 3) hw.1 rfl
  have HCa := Lib.hid (fun V => mg_clone V xa ha)
  have HCz := Lib.hid (fun V => mg_clone V xz hz)
  clear hw ha hz
  go_enter Try.func58, Try.ntmps58
  go_upto_region 1 with (fail)
  go_cut [] (fun wx => OwT w #[.int .i64 xf, .int .i64 xl, .string ⟨xa.toArray⟩, .string ⟨xz.toArray⟩, .int .i64 xs] wx)
  case first =>
    have HJ := HW
    go_region_with
      (go_at_call 53
       first
         | (refine (HCa.out _).mono ?_
            rintro r w1 ⟨rfl, hb1⟩
            have h1 : OwT w #[.int .i64 xf, .int .i64 xl, .string ⟨xa.toArray⟩, .string ⟨xz.toArray⟩, .int .i64 xs] w1 := OwT.call (by first | exact HJ.out | exact HJ.out.drew | exact HJ.out.drew.drew) hb1
            have HJ' := HJ
            clear HJ
            have HJ := Lib.hid h1
            have y2 := cell_of (i := 2) h1.1 rfl
            have y3 := cell_of (i := 3) h1.1 rfl
            have v2 := frozen_of (i := 2) h1.1
            have v3 := frozen_of (i := 3) h1.1
            clear hb1 h1)
         | (refine (HCz.out _).mono ?_
            rintro r w1 ⟨rfl, hb1⟩
            have h1 : OwT w #[.int .i64 xf, .int .i64 xl, .string ⟨xa.toArray⟩, .string ⟨xz.toArray⟩, .int .i64 xs] w1 := OwT.call (by first | exact HJ.out | exact HJ.out.drew | exact HJ.out.drew.drew) hb1
            have HJ' := HJ
            clear HJ
            have HJ := Lib.hid h1
            have y2 := cell_of (i := 2) h1.1 rfl
            have y3 := cell_of (i := 3) h1.1 rfl
            have v2 := frozen_of (i := 2) h1.1
            have v3 := frozen_of (i := 3) h1.1
            clear hb1 h1))
    all_goals
      go_wp2_with fail
      go_meet
      first
        | exact (HJ.out.set 2 _ rfl).set 3 _ rfl
        | exact (HJ.out.set 3 _ rfl).set 2 _ rfl
        | exact (HJ.out.drew.set 2 _ rfl).set 3 _ rfl
        | exact ((HJ.out.set 2 _ rfl).set 3 _ rfl).drew
  case rest =>
    generalize wc = V at *
    have HJ := Lib.hid hcut
    have c0 := cell_of (i := 0) hcut.1 rfl
    have c1 := cell_of (i := 1) hcut.1 rfl
    have c2 := cell_of (i := 2) hcut.1 rfl
    have c3 := cell_of (i := 3) hcut.1 rfl
    have c4 := cell_of (i := 4) hcut.1 rfl
    have f0 := frozen_of (i := 0) hcut.2.1
    have f1 := frozen_of (i := 1) hcut.2.1
    have f2 := frozen_of (i := 2) hcut.2.1
    have f3 := frozen_of (i := 3) hcut.2.1
    have f4 := frozen_of (i := 4) hcut.2.1
    have u0 := cell_of (i := 0) hcut.2.1 rfl
    have u1 := cell_of (i := 1) hcut.2.1 rfl
    have u2 := cell_of (i := 2) hcut.2.1 rfl
    have u3 := cell_of (i := 3) hcut.2.1 rfl
    have u4 := cell_of (i := 4) hcut.2.1 rfl
    clear hcut x2 x3
    go_wp2_with fail
    have q := set5_heap HJ.out.2.1 (.int .i64 xf) (.int .i64 xl) (.string ⟨xa.toArray⟩) (.string ⟨xz.toArray⟩) (.int .i64 xs)
    unfold set5 at q
    refine bodyPost_ret (v := .agg #[.int .i64 xf, .int .i64 xl, .string ⟨xa.toArray⟩, .string ⟨xz.toArray⟩, .int .i64 xs]) (results_tab rfl _ _ (w.heap.size + 1) _ rfl q rfl) rfl ⟨rfl, ?_⟩
    exact HJ.out.2.2.trans ((set5_fr V (w.heap.size + 1) _ _ _ _ _ (fun k => k = w.heap.size + 1) rfl).below HJ.out.2.2.size (fun k hk e => by omega))
end Go.Proofs.Yteclnnjijfbfoaa

/-
  The walk over compact.Over, of any tables.
-/
namespace Go.Proofs.Yteclnnjijfbfoaa
open Go.RowKit

theorem flt_snoc (p : Tab → Bool) (l : List Tab) (k : Nat) (h : k < l.length) : (l.take (k + 1)).filter p = if p l[k] = true then (l.take k).filter p ++ [l[k]] else (l.take k).filter p := by
  rw [take_snoc l k _ (List.getElem?_eq_getElem h), List.filter_append]
  split
  · next h1 => simp [h1]
  · next h1 => simp [h1]
def ovT (lv : Int) (s : List UInt8 × List UInt8) (l : List Tab) : List Tab := (lvT lv l).filter (shY s)
/-- Texts that can be cloned. -/
def FitT (l : List Tab) : Prop := ∀ t ∈ l, t.first.length ≤ 281474976710656 ∧ t.last.length ≤ 281474976710656

set_option maxRecDepth 100000 in
set_option maxHeartbeats 4000000 in
theorem over_any (w : World) (F : Nat → Prop) (tv : Value) (ts : List Tab) (s n m lv : Int) (a b : List UInt8) (h : TsM w F tv ts) (hl : ts.length ≤ 1048576) (hf : FitT ts) :
    Calls Try.prog 43 #[.agg #[tv, .int .u64 s, .int .i64 n, .int .i64 m], .int .i64 lv, .string ⟨a.toArray⟩, .string ⟨b.toArray⟩] w
      fun x w' => ∃ q c, x = .returned (.slice q (ovT lv (a, b) ts).length c) ∧ w'.ownsRow w.heap.size 49 5 (.slice q (ovT lv (a, b) ts).length c) (ovT lv (a, b) ts).length (cellsTs (ovT lv (a, b) ts)) ∧ Below w.heap.size w w' := by
  obtain ⟨p, cap, rfl, _⟩ := Cl.form h
  have hz0 := heap_alloc_new w (.cells #[.slice p ts.length cap, .int .u64 s, .int .i64 n, .int .i64 m] 44)
  obtain ⟨X, hX⟩ : ∃ X, w.alloc (.cells #[.slice p ts.length cap, .int .u64 s, .int .i64 n, .int .i64 m] 44) = X := ⟨_, rfl⟩
  have hbX : Below w.heap.size w X := by rw [← hX]; exact belowA _ _
  rw [hX] at hz0
  have hz1 := heap_alloc_new X (.cells #[.string ⟨#[]⟩, .string ⟨#[]⟩] 92)
  obtain ⟨Y, hY⟩ : ∃ Y, X.alloc (.cells #[.string ⟨#[]⟩, .string ⟨#[]⟩] 92) = Y := ⟨_, rfl⟩
  have hbY : Below X.heap.size X Y := by rw [← hY]; exact belowA _ _
  rw [hY] at hz1
  have f0 := frozen_of (i := 0) hz1
  have f1 := frozen_of (i := 1) hz1
  have u0 := cell_of (i := 0) hz1 rfl
  have u1 := cell_of (i := 1) hz1 rfl
  obtain ⟨Z, hZ⟩ : ∃ Z, (Y.setCell ⟨X.heap.size, 0, none⟩ (.string ⟨a.toArray⟩)).setCell ⟨X.heap.size, 1, none⟩ (.string ⟨b.toArray⟩) = Z := ⟨_, rfl⟩
  have hbZ : Below X.heap.size X Z := by rw [← hZ]; exact (hbY.setCell (p := ⟨X.heap.size, 0, none⟩) (Nat.le_refl _) _).setCell (p := ⟨X.heap.size, 1, none⟩) (Nat.le_refl _) _
  have hzZ := (hbZ.block _ (block_lt hz0)).trans hz0
  have v0 := cell_of (i := 0) hzZ rfl
  have v1 := cell_of (i := 1) hzZ rfl
  have v2 := cell_of (i := 2) hzZ rfl
  have v3 := cell_of (i := 3) hzZ rfl
  have HB : Hid (Below w.heap.size w Z) := Lib.hid (hbX.trans (hbZ.mono hbX.size))
  have hst : Z.heap[X.heap.size]? = some (.cells #[.string ⟨a.toArray⟩, .string ⟨b.toArray⟩] 92 (0, 0)) := by
    rw [← hZ]
    exact setCell_same (off := 1) (setCell_same (off := 0) hz1 _) _
  have HSt := Lib.hid hst
  have HC := Lib.hid (at_any Z F (.slice p ts.length cap) ts s n m lv (h.below HB.out) hl)
  have hfL : FitT (lvT lv ts) := fun t ht => hf t (List.mem_filter.1 ht).1
  have hLl := lvT_len lv ts
  unfold ovT
  generalize lvT lv ts = L at *
  have HFL := Lib.hid hfL
  have hxs := hbX.size
  clear h hz0 hz1 hbX hbY hbZ hzZ hst hf hfL
  go_enter Try.func43, Try.ntmps43
  go_wp2_with fail
  refine HC.out.mono ?_
  rintro x w1 ⟨q, c, rfl, hrow, hb1⟩
  have HB1 : Hid (Below w.heap.size w w1) := Lib.hid (HB.out.trans (hb1.mono HB.out.size))
  have HS1 := Lib.hid ((hb1.block _ (block_lt HSt.out)).trans HSt.out)
  have HL : Hid (TsM w1 (fun _ => True) (.slice q L.length c) L) := Lib.hid (Cl.of_own hrow (by omega) (fun _ _ => trivial) (cellsTs_len L))
  clear hb1 HC hrow v0 v1 v2 v3 f0 f1 u0 u1 hZ
  go_wp2_with fail
  go_loopw [10, 20] (fun sv iv wr => ∃ (k : Nat) (q2 : Option Addr) (c2 : Nat), k ≤ L.length ∧ iv = .int .i64 (k : Int) ∧ sv = .slice q2 ((L.take k).filter (shY (a, b))).length c2 ∧ wr.ownsRow w1.heap.size 49 5 (.slice q2 ((L.take k).filter (shY (a, b))).length c2) ((L.take k).filter (shY (a, b))).length (cellsTs ((L.take k).filter (shY (a, b)))) ∧ Below w1.heap.size w1 wr) (fun _ iv _ => L.length - (intOf iv).toNat)
  case atStart => exact ⟨0, none, 0, by omega, rfl, rfl, World.ownsRow_nil _ _ _ _, Below.refl _ _⟩
  case round =>
    obtain ⟨k, q2, c2, hk, rfl, rfl, hrow, hb⟩ := hrel
    generalize wr = wz at *
    have hfl := List.length_filter_le (shY (a, b)) (L.take k)
    rw [List.length_take, Nat.min_eq_left hk] at hfl
    by_cases hlt : k < L.length
    · have d5 : decide ((k : Int) < (L.length : Int)) = true := decide_eq_true (by omega)
      obtain ⟨b1, off1, rfl, hbl, e0, e1, e2, e3, e4⟩ := (HL.out.below hb).at_ (List.getElem?_eq_getElem hlt)
      have HSn := Lib.hid (flt_snoc (shY (a, b)) L k hlt)
      have HFx := Lib.hid (HFL.out _ (List.getElem_mem hlt))
      obtain ⟨x, hx⟩ : ∃ x, L[k] = x := ⟨_, rfl⟩
      rw [hx] at e0 e1 e2 e3 e4 HSn HFx
      clear hx
      obtain ⟨xf, xl, xa, xz, xs⟩ := x
      dsimp only at e0 e1 e2 e3 e4 HFx
      generalize (L.take k).filter (shY (a, b)) = o at *
      have hz := heap_alloc_new wz (.cells #[.int .i64 0, .int .i64 0, .string ⟨#[]⟩, .string ⟨#[]⟩, .int .i64 0] 49)
      obtain ⟨V, hV⟩ : ∃ V, wz.alloc (.cells #[.int .i64 0, .int .i64 0, .string ⟨#[]⟩, .string ⟨#[]⟩, .int .i64 0] 49) = V := ⟨_, rfl⟩
      have hbV : Below wz.heap.size wz V := by rw [← hV]; exact belowA _ _
      rw [hV] at hz
      have f0 := frozen_of (i := 0) hz
      have f1 := frozen_of (i := 1) hz
      have f2 := frozen_of (i := 2) hz
      have f3 := frozen_of (i := 3) hz
      have f4 := frozen_of (i := 4) hz
      have u0 := cell_of (i := 0) hz rfl
      have u1 := cell_of (i := 1) hz rfl
      have u2 := cell_of (i := 2) hz rfl
      have u3 := cell_of (i := 3) hz rfl
      have u4 := cell_of (i := 4) hz rfl
      obtain ⟨R, hR⟩ : ∃ R, set5 V wz.heap.size (.int .i64 xf) (.int .i64 xl) (.string ⟨xa.toArray⟩) (.string ⟨xz.toArray⟩) (.int .i64 xs) = R := ⟨_, rfl⟩
      have hbR : Below wz.heap.size wz R := by rw [← hR]; exact hbV.trans ((set5_fr V wz.heap.size _ _ _ _ _ (fun k => k = wz.heap.size) rfl).below hbV.size (fun k hk e => by omega))
      have hRa : R.heap[wz.heap.size]? = some (.cells #[.int .i64 xf, .int .i64 xl, .string ⟨xa.toArray⟩, .string ⟨xz.toArray⟩, .int .i64 xs] 49 (0, 0)) := by rw [← hR]; exact set5_heap hz _ _ _ _ _
      unfold set5 at hR
      have x0 := cell_of (i := 0) hRa rfl
      have x1 := cell_of (i := 1) hRa rfl
      have x2 := cell_of (i := 2) hRa rfl
      have x3 := cell_of (i := 3) hRa rfl
      have x4 := cell_of (i := 4) hRa rfl
      have hsR := (hbR.block _ (block_lt ((hb.block _ (block_lt HS1.out)).trans HS1.out))).trans ((hb.block _ (block_lt HS1.out)).trans HS1.out)
      have s0 := cell_of (i := 0) hsR rfl
      have s1 := cell_of (i := 1) hsR rfl
      have HBR : Hid (Below w1.heap.size w1 R) := Lib.hid (hb.trans (hbR.mono hb.size))
      have HRowR : Hid (R.ownsRow w1.heap.size 49 5 (.slice q2 o.length c2) o.length (cellsTs o)) := Lib.hid (row_keep hrow fun j hj => hbR.block j (row_lt hrow j hj))
      have HRa := Lib.hid hRa
      have HSh := Lib.hid (shares_any R a b xa xz xf xl xs)
      obtain ⟨y, hy⟩ : ∃ y, shY (a, b) ⟨xf, xl, xa, xz, xs⟩ = y := ⟨_, rfl⟩
      rw [hy] at HSn HSh
      clear hz hbV hbR hRa hsR hrow hb hy
      go_wp2_with fail
      refine HSh.out.mono ?_
      rintro r w3 ⟨rfl, hb3⟩
      have hR3 := (hb3.block _ (block_lt HRa.out)).trans HRa.out
      have HB3 : Hid (Below w1.heap.size w1 w3) := Lib.hid (HBR.out.trans (hb3.mono HBR.out.size))
      have HRow3 : Hid (w3.ownsRow w1.heap.size 49 5 (.slice q2 o.length c2) o.length (cellsTs o)) := Lib.hid (row_keep HRowR.out fun j hj => hb3.block j (row_lt HRowR.out j hj))
      have m0 := cell_of (i := 0) hR3 rfl
      have m1 := cell_of (i := 1) hR3 rfl
      have m2 := cell_of (i := 2) hR3 rfl
      have m3 := cell_of (i := 3) hR3 rfl
      have m4 := cell_of (i := 4) hR3 rfl
      clear hb3 hR3
      cases y
      · go_wp2_with fail
        go_roundw
        case rel => exact ⟨k + 1, q2, c2, by omega, by go_num, by rw [HSn.out]; rfl, by rw [HSn.out]; exact HRow3.out, HB3.out⟩
        case measure => simp [intOf]; omega
      · have HOw := Lib.hid (town_any w3 xa xz xf xl xs HFx.out.1 HFx.out.2)
        go_wp2_with fail
        refine HOw.out.mono ?_
        rintro r w4 ⟨rfl, hb4⟩
        have HB4 : Hid (Below w1.heap.size w1 w4) := Lib.hid (HB3.out.trans (hb4.mono HB3.out.size))
        have hs4 := HB4.out.size
        have HRw : Hid ((w4.alloc (.cells #[.int .i64 xf, .int .i64 xl, .string ⟨xa.toArray⟩, .string ⟨xz.toArray⟩, .int .i64 xs] 49)).ownsRow w1.heap.size 49 5 (.slice q2 o.length c2) o.length (cellsTs o)) := Lib.hid (row_keep HRow3.out fun j hj => (alloc_old (Nat.lt_of_lt_of_le (row_lt HRow3.out j hj) hb4.size) _).trans (hb4.block j (row_lt HRow3.out j hj)))
        have HNw : Hid (Cl (w4.alloc (.cells #[.int .i64 xf, .int .i64 xl, .string ⟨xa.toArray⟩, .string ⟨xz.toArray⟩, .int .i64 xs] 49)) (fun _ => True) (.slice (some ⟨w4.heap.size, 0, none⟩) 1 1) 1 (cT ⟨xf, xl, xa, xz, xs⟩)) := Lib.hid (Cl.new w4 (fun _ => True) 1 (cT ⟨xf, xl, xa, xz, xs⟩) _ _ rfl (by omega) trivial)
        have HOne := Lib.hid (cT_one ⟨xf, xl, xa, xz, xs⟩)
        have hsn2 : (L.take (k + 1)).filter (shY (a, b)) = o ++ [⟨xf, xl, xa, xz, xs⟩] := by rw [HSn.out]; rfl
        have HSn2 := Lib.hid hsn2
        clear hsn2 HSn hb4
        go_wp2_with (at_builtin; refine slTab.wpList_append rfl (.tmp 27) (.tmp 30) rfl w1.heap.size (v := .slice q2 o.length c2) (u := .slice (some ⟨w4.heap.size, 0, none⟩) 1 1) rfl rfl HRw.out HNw.out rfl HOne.out (by omega) (by simp; omega) ?_; intro v5 w5 ho5 hg5 ha5; have HB5 := Lib.hid ((HB4.out.alloc hs4 _).grown hg5 (by simp; omega) (fun j hj => (World.ownsRow.lt HRw.out j hj).1)); obtain ⟨p5, c5, rfl, _, _⟩ := row_shape ho5; have HO5 := Lib.hid ho5; clear ho5 hg5 ha5)
        go_roundw
        case rel => exact ⟨k + 1, p5, c5, by omega, by go_num, by rw [HSn2.out, List.length_append, List.length_singleton], by rw [HSn2.out, cellsTs_snoc, List.length_append, List.length_singleton]; exact HO5.out, HB5.out⟩
        case measure => simp [intOf]; omega
    · obtain rfl : k = L.length := by omega
      have d5 : decide ((L.length : Int) < (L.length : Int)) = false := by simp
      rw [List.take_length] at hrow
      have HRow := Lib.hid (row_more hrow (base' := w.heap.size) (fun j hj => by have := row_low hrow j hj; have := HB1.out.size; omega))
      have HBz : Hid (Below w.heap.size w wz) := Lib.hid (HB1.out.trans (hb.mono HB1.out.size))
      rw [List.take_length]
      clear hrow hb
      go_wp2_with fail
      go_ret
      exact ⟨q2, c2, rfl, HRow.out, HBz.out⟩
end Go.Proofs.Yteclnnjijfbfoaa

/-
  What compact.job goes on with, for any tables.
-/
namespace Go.Proofs.Yteclnnjijfbfoaa
open Go.RowKit

def fileV (l : List Tab) : List Value := l.map fun t => Value.int .i64 t.file
theorem fileV_snoc (l : List Tab) (k : Nat) (h : k < l.length) : fileV (l.take (k + 1)) = fileV (l.take k) ++ [.int .i64 l[k].file] := by
  unfold fileV
  rw [take_snoc l k _ (List.getElem?_eq_getElem h), List.map_append]
  rfl
theorem fileV_len (l : List Tab) : (fileV l).length = l.length := by simp [fileV]
/-- A version's value. -/
def verV9 (tv : Value) (s n m : Int) : Array Value := #[tv, .int .u64 s, .int .i64 n, .int .i64 m]
/-- What job goes on with: the version's box, the result's, the stretch's, the job's; the numbers told so far; the tables of the job; those of the version. -/
structure JbN (w : World) (base g0 g1 g2 g3 : Nat) (tv : Value) (vs vn vm lv : Int) (ts U : List Tab) (q : Option Addr) (c : Nat) (sa sz : List UInt8) (bt : Bool) (wr : World) (k : Nat) (ip : Option Addr) (ic : Nat) : Prop where
  box : wr.heap[g0]? = some (.cells #[tv, .int .u64 vs, .int .i64 vn, .int .i64 vm] 44 (0, 0))
  res : wr.heap[g1]? = some (.cells #[.int .i64 0, .slice none 0 0, .bool false] 58 (0, 0))
  st : wr.heap[g2]? = some (.cells #[.string ⟨sa.toArray⟩, .string ⟨sz.toArray⟩] 92 (0, 0))
  jb : wr.heap[g3]? = some (.cells #[.int .i64 lv, .slice ip k ic, .bool bt] 58 (0, 0))
  ne : g3 ≠ g1
  ints : wr.ownsRow w.heap.size 3 1 (.slice ip k ic) k (fileV (U.take k))
  tab : wr.ownsRow base 49 5 (.slice q U.length c) U.length (cellsTs U)
  tv_ : TsM wr (fun k => k < base) tv ts
  bel : Below base w wr
  bas : base ≤ w.heap.size
  b0 : w.heap.size ≤ g0
  b1 : w.heap.size ≤ g1
  b2 : w.heap.size ≤ g2
  b3 : w.heap.size ≤ g3
section
variable {w wr w' : World} {base g0 g1 g2 g3 : Nat} {tv : Value} {vs vn vm lv : Int} {ts U : List Tab} {q : Option Addr} {c k : Nat} {sa sz : List UInt8} {bt : Bool} {ip : Option Addr} {ic : Nat}
theorem JbN.after (h : JbN w base g0 g1 g2 g3 tv vs vn vm lv ts U q c sa sz bt wr k ip ic) (hb : Below wr.heap.size wr w') : JbN w base g0 g1 g2 g3 tv vs vn vm lv ts U q c sa sz bt w' k ip ic :=
  ⟨(hb.block _ (block_lt h.box)).trans h.box, (hb.block _ (block_lt h.res)).trans h.res, (hb.block _ (block_lt h.st)).trans h.st, (hb.block _ (block_lt h.jb)).trans h.jb, h.ne, row_keep h.ints fun j hj => hb.block j (row_lt h.ints j hj), row_keep h.tab fun j hj => hb.block j (row_lt h.tab j hj), h.tv_.below hb,
    h.bel.trans (hb.mono (Nat.le_trans h.bas h.bel.size)), h.bas, h.b0, h.b1, h.b2, h.b3⟩
/-- One number more, behind an append and the store into the job. -/
theorem JbN.put {W w3 : World} {p9 : Option Addr} {c9 : Nat} (h : JbN w base g0 g1 g2 g3 tv vs vn vm lv ts U q c sa sz bt wr k ip ic) (hb : Below wr.heap.size wr W)
    (ho : w3.ownsRow w.heap.size 3 1 (.slice p9 (k + 1) c9) (k + 1) (fileV (U.take (k + 1)))) (hg : W.grownBy w3 (Value.slice ip k ic).ownBlock) :
    JbN w base g0 g1 g2 g3 tv vs vn vm lv ts U q c sa sz bt (w3.setCell ⟨g3, 1, none⟩ (.slice p9 (k + 1) c9)) (k + 1) p9 c9 := by
  have hW := h.after hb
  have hne : ∀ {b : Nat} {cs : Array Value} {t : TypeId} {z : Nat × Nat}, W.heap[b]? = some (.cells cs t z) → t ≠ 3 → w3.heap[b]? = W.heap[b]? := fun {b cs t z} h1 h2 => hg.block b (block_lt h1) (fun e => by
    obtain ⟨cur, hc⟩ := row_heap hW.ints e.symm
    exact kind_ne h1 hc h2 rfl)
  have j3 : w3.heap[g3]? = _ := (hne hW.jb (by decide)).trans hW.jb
  have r3 : w3.heap[g1]? = _ := (hne hW.res (by decide)).trans hW.res
  have hbg : Below base W w3 := (Below.refl _ _).grown hg (Nat.le_trans h.bas (Nat.le_trans (Nat.le_trans h.bel.size (Nat.le_refl _)) hb.size)) (fun j hj => Nat.le_trans h.bas (row_low hW.ints j hj))
  have hbs : Below base W (w3.setCell ⟨g3, 1, none⟩ (.slice p9 (k + 1) c9)) := hbg.setCell (p := ⟨g3, 1, none⟩) (Nat.le_trans h.bas h.b3) _
  have hkd : ∀ {b : Nat} {cs : Array Value} {t : TypeId} {z : Nat × Nat}, W.heap[b]? = some (.cells cs t z) → t ≠ 3 → t ≠ 58 → (w3.setCell ⟨g3, 1, none⟩ (.slice p9 (k + 1) c9)).heap[b]? = some (.cells cs t z) := fun {b cs t z} h1 h2 h3 =>
    (setCell_other (kind_ne ((hne h1 h2).trans h1) j3 h3) _).trans ((hne h1 h2).trans h1)
  refine ⟨hkd hW.box (by decide) (by decide), (setCell_other (fun e => h.ne e.symm) _).trans r3, hkd hW.st (by decide) (by decide), by simpa using setCell_same (off := 1) j3 (.slice p9 (k + 1) c9), h.ne, ?_, ?_, ?_, hW.bel.trans (hbs.mono (Nat.le_refl _)), h.bas, h.b0, h.b1, h.b2, h.b3⟩
  · refine row_keep ho fun j hj => setCell_other (fun e => ?_) _
    obtain ⟨cur, hc⟩ := row_heap ho hj
    subst e
    exact kind_ne hc j3 (by decide) rfl
  · refine row_keep hW.tab fun j hj => ?_
    obtain ⟨cur, hc⟩ := row_heap hW.tab hj
    exact (hkd hc (by decide) (by decide)).trans hc.symm
  · exact Cl.step hW.tv_ (Fr.of_below hbs) (fun j _ hj hle => by omega)
/-- The stretch is laid again. -/
theorem JbN.again (h : JbN w base g0 g1 g2 g3 tv vs vn vm lv ts U q c sa sz bt wr k ip ic) (ya yz : List UInt8) :
    JbN w base g0 g1 g2 g3 tv vs vn vm lv ts U q c ya yz bt ((wr.setCell ⟨g2, 0, none⟩ (.string ⟨ya.toArray⟩)).setCell ⟨g2, 1, none⟩ (.string ⟨yz.toArray⟩)) k ip ic := by
  have hb : Below base wr ((wr.setCell ⟨g2, 0, none⟩ (.string ⟨ya.toArray⟩)).setCell ⟨g2, 1, none⟩ (.string ⟨yz.toArray⟩)) :=
    ((Below.refl base wr).setCell (p := ⟨g2, 0, none⟩) (Nat.le_trans h.bas h.b2) _).setCell (p := ⟨g2, 1, none⟩) (Nat.le_trans h.bas h.b2) _
  have hkd : ∀ {b : Nat} {cs : Array Value} {t : TypeId} {z : Nat × Nat}, wr.heap[b]? = some (.cells cs t z) → t ≠ 92 → ((wr.setCell ⟨g2, 0, none⟩ (.string ⟨ya.toArray⟩)).setCell ⟨g2, 1, none⟩ (.string ⟨yz.toArray⟩)).heap[b]? = some (.cells cs t z) := fun {b cs t z} h1 h2 =>
    (setCell_other (kind_ne h1 h.st h2) _).trans ((setCell_other (kind_ne h1 h.st h2) _).trans h1)
  have q1 := setCell_same (off := 0) h.st (.string ⟨ya.toArray⟩)
  have q2 := setCell_same (off := 1) q1 (.string ⟨yz.toArray⟩)
  refine ⟨hkd h.box (by decide), hkd h.res (by decide), by simpa using q2, hkd h.jb (by decide), h.ne, ?_, ?_, Cl.step h.tv_ (Fr.of_below hb) (fun j _ hj hle => by omega), h.bel.trans (hb.mono (Nat.le_refl _)), h.bas, h.b0, h.b1, h.b2, h.b3⟩
  · refine row_keep h.ints fun j hj => ?_
    obtain ⟨cur, hc⟩ := row_heap h.ints hj
    exact (hkd hc (by decide)).trans hc.symm
  · refine row_keep h.tab fun j hj => ?_
    obtain ⟨cur, hc⟩ := row_heap h.tab hj
    exact (hkd hc (by decide)).trans hc.symm
/-- It is not the lowest. -/
theorem JbN.high (h : JbN w base g0 g1 g2 g3 tv vs vn vm lv ts U q c sa sz bt wr k ip ic) :
    JbN w base g0 g1 g2 g3 tv vs vn vm lv ts U q c sa sz false (wr.setCell ⟨g3, 2, none⟩ (.bool false)) k ip ic := by
  have hb : Below base wr (wr.setCell ⟨g3, 2, none⟩ (.bool false)) := (Below.refl base wr).setCell (p := ⟨g3, 2, none⟩) (Nat.le_trans h.bas h.b3) _
  have hkd : ∀ {b : Nat} {cs : Array Value} {t : TypeId} {z : Nat × Nat}, wr.heap[b]? = some (.cells cs t z) → t ≠ 58 → (wr.setCell ⟨g3, 2, none⟩ (.bool false)).heap[b]? = some (.cells cs t z) := fun {b cs t z} h1 h2 =>
    (setCell_other (kind_ne h1 h.jb h2) _).trans h1
  refine ⟨hkd h.box (by decide), (setCell_other (fun e => h.ne e.symm) _).trans h.res, hkd h.st (by decide), by simpa using setCell_same (off := 2) h.jb (.bool false), h.ne, ?_, ?_, Cl.step h.tv_ (Fr.of_below hb) (fun j _ hj hle => by omega), h.bel.trans (hb.mono (Nat.le_refl _)), h.bas, h.b0, h.b1, h.b2, h.b3⟩
  · refine row_keep h.ints fun j hj => ?_
    obtain ⟨cur, hc⟩ := row_heap h.ints hj
    exact (hkd hc (by decide)).trans hc.symm
  · refine row_keep h.tab fun j hj => ?_
    obtain ⟨cur, hc⟩ := row_heap h.tab hj
    exact (hkd hc (by decide)).trans hc.symm
end
end Go.Proofs.Yteclnnjijfbfoaa

/-
  The walk over compact.job, of any tables.
-/
namespace Go.Proofs.Yteclnnjijfbfoaa
open Go.RowKit

theorem cellsTs_app (a b : List Tab) : cellsTs (a ++ b) = cellsTs a ++ cellsTs b := by simp [cellsTs]
theorem ovT_len (lv : Int) (s : List UInt8 × List UInt8) (l : List Tab) : (ovT lv s l).length ≤ l.length := Nat.le_trans (List.length_filter_le _ _) (lvT_len lv l)

set_option maxRecDepth 100000 in
set_option maxHeartbeats 4000000 in
theorem job_any (w : World) (base : Nat) (tv : Value) (vs vn vm lv : Int) (ts L : List Tab) (t0 : Tab) (q : Option Addr) (c : Nat) (ht : TsM w (fun k => k < base) tv ts) (hq : w.ownsRow base 49 5 (.slice q L.length c) L.length (cellsTs L)) (hbase : base ≤ w.heap.size)
    (hl : ts.length ≤ 65536) (hL : L.length ≤ 65536) (h0 : L[0]? = some t0) (hf : FitT ts) (hlv0 : 0 ≤ lv) (hlv5 : lv ≤ 5) :
    Calls Try.prog 27 #[.agg #[tv, .int .u64 vs, .int .i64 vn, .int .i64 vm], .int .i64 lv, .slice q L.length c] w fun x w' => ∃ (U : List Tab) (ip : Option Addr) (ic : Nat) (bt : Bool), U = L ++ ovT (lv + 1) (stS t0 L) ts ∧ x = .returned (.agg #[.int .i64 lv, .slice ip U.length ic, .bool bt]) ∧
      (bt = true ↔ ∀ j : Int, lv + 2 ≤ j → j ≤ 6 → ovT j (stS t0 U) ts = []) ∧ w'.ownsRow w.heap.size 3 1 (.slice ip U.length ic) U.length (fileV U) ∧ Below base w w' := by
  obtain ⟨p, cap, rfl, _⟩ := Cl.form ht
  have hz0 := heap_alloc_new w (.cells #[.slice p ts.length cap, .int .u64 vs, .int .i64 vn, .int .i64 vm] 44)
  obtain ⟨X0, hX0⟩ : ∃ X, w.alloc (.cells #[.slice p ts.length cap, .int .u64 vs, .int .i64 vn, .int .i64 vm] 44) = X := ⟨_, rfl⟩
  have hbX0 : Below w.heap.size w X0 := by rw [← hX0]; exact belowA _ _
  rw [hX0] at hz0
  have hz1 := heap_alloc_new X0 (.cells #[.int .i64 0, .slice none 0 0, .bool false] 58)
  obtain ⟨X1, hX1⟩ : ∃ X, X0.alloc (.cells #[.int .i64 0, .slice none 0 0, .bool false] 58) = X := ⟨_, rfl⟩
  have hbX1 : Below X0.heap.size X0 X1 := by rw [← hX1]; exact belowA _ _
  rw [hX1] at hz1
  have hz01 := (hbX1.block _ (block_lt hz0)).trans hz0
  have HG := Lib.hid (And.intro hz01 hz1)
  have HBX : Hid (Below w.heap.size w X1) := Lib.hid (hbX0.trans (hbX1.mono hbX0.size))
  have hs0 : w.heap.size ≤ X0.heap.size := hbX0.size
  have HT := Lib.hid ht
  have HQ := Lib.hid hq
  have HBa := Lib.hid hbase
  have HAr := Lib.hid (fun (V : World) (u : Option Addr) (uc : Nat) (l : List Tab) (t : Tab) (g0 : l[0]? = some t) (gl : l.length ≤ 1048576) (hu : V.ownsRow base 49 5 (.slice u l.length uc) l.length (cellsTs l)) => around_any V (fun _ => True) u uc l t (Cl.of_own hu (by omega) (fun _ _ => trivial) (cellsTs_len l)) g0 gl)
  have HA1 := Lib.hid (HAr.out X1 q c L t0 h0 (by omega) (row_keep hq fun j hj => HBX.out.block j (row_lt hq j hj)))
  have H0 := Lib.hid h0
  have HF := Lib.hid hf
  have hw1 : IntKind.i64.wrap (lv + 1) = lv + 1 := IntWalk.i64_in _ (by omega)
  have hw2 : IntKind.i64.wrap (lv + 2) = lv + 2 := IntWalk.i64_in _ (by omega)
  obtain ⟨s, hs⟩ : ∃ s, stS t0 L = s := ⟨_, rfl⟩
  rw [hs] at HA1 ⊢
  clear hs
  obtain ⟨sa, sz⟩ := s
  dsimp only at HA1
  have hOl := ovT_len (lv + 1) (sa, sz) ts
  have HOv1 := Lib.hid (fun (V : World) (g : TsM V (fun k => k < base) (.slice p ts.length cap) ts) => over_any V (fun k => k < base) (.slice p ts.length cap) ts vs vn vm (lv + 1) sa sz g (by omega) hf)
  generalize ovT (lv + 1) (sa, sz) ts = O at *
  obtain ⟨U, hU⟩ : ∃ U, L ++ O = U := ⟨_, rfl⟩
  have hUl : U.length = L.length + O.length := by rw [← hU, List.length_append]
  have HUl := Lib.hid hUl
  have HUc : Hid (cellsTs L ++ cellsTs O = cellsTs U) := Lib.hid (by rw [← hU, cellsTs_app])
  have HU0 : Hid (U[0]? = some t0) := Lib.hid (by rw [← hU, List.getElem?_append_left (by rcases Nat.eq_zero_or_pos L.length with h5 | h5; (rw [List.length_eq_zero_iff] at h5; subst h5; simp at h0); exact h5)]; exact h0)
  have hUm : U.length ≤ 131072 := by omega
  rw [hU]
  clear hU hUl hz0 hz1 hz01 hbX0 hbX1 ht hq hbase h0 hf
  go_enter Try.func27, Try.ntmps27
  go_wp2_with fail
  go_step3
  go_wp2_with fail
  refine HA1.out.mono ?_
  rintro x w3 ⟨rfl, hb3⟩
  have hG0 := (hb3.block _ (block_lt HG.out.1)).trans HG.out.1
  have hG1 := (hb3.block _ (block_lt HG.out.2)).trans HG.out.2
  have hz2 := heap_alloc_new w3 (.cells #[.string ⟨#[]⟩, .string ⟨#[]⟩] 92)
  obtain ⟨Y, hY⟩ : ∃ Y, w3.alloc (.cells #[.string ⟨#[]⟩, .string ⟨#[]⟩] 92) = Y := ⟨_, rfl⟩
  have hbY : Below w3.heap.size w3 Y := by rw [← hY]; exact belowA _ _
  rw [hY] at hz2
  have f0 := frozen_of (i := 0) hz2
  have f1 := frozen_of (i := 1) hz2
  have u0 := cell_of (i := 0) hz2 rfl
  have u1 := cell_of (i := 1) hz2 rfl
  obtain ⟨Z, hZ⟩ : ∃ Z, (Y.setCell ⟨w3.heap.size, 0, none⟩ (.string ⟨sa.toArray⟩)).setCell ⟨w3.heap.size, 1, none⟩ (.string ⟨sz.toArray⟩) = Z := ⟨_, rfl⟩
  have hbZ : Below w3.heap.size w3 Z := by rw [← hZ]; exact (hbY.setCell (p := ⟨w3.heap.size, 0, none⟩) (Nat.le_refl _) _).setCell (p := ⟨w3.heap.size, 1, none⟩) (Nat.le_refl _) _
  have hz2Z : Z.heap[w3.heap.size]? = some (.cells #[.string ⟨sa.toArray⟩, .string ⟨sz.toArray⟩] 92 (0, 0)) := by
    rw [← hZ]
    have q1 := setCell_same (off := 0) hz2 (.string ⟨sa.toArray⟩)
    have q2 := setCell_same (off := 1) q1 (.string ⟨sz.toArray⟩)
    simpa using q2
  have hG0Z := (hbZ.block _ (block_lt hG0)).trans hG0
  have hG1Z := (hbZ.block _ (block_lt hG1)).trans hG1
  have v0 := cell_of (i := 0) hG0Z rfl
  have v1 := cell_of (i := 1) hG0Z rfl
  have v2 := cell_of (i := 2) hG0Z rfl
  have v3 := cell_of (i := 3) hG0Z rfl
  have s0 := cell_of (i := 0) hz2Z rfl
  have s1 := cell_of (i := 1) hz2Z rfl
  have HBZ : Hid (Below w.heap.size w Z) := Lib.hid ((HBX.out.trans (hb3.mono HBX.out.size)).trans (hbZ.mono (Nat.le_trans HBX.out.size hb3.size)))
  have HGZ := Lib.hid (And.intro hG0Z (And.intro hG1Z hz2Z))
  have hs3 : w.heap.size ≤ w3.heap.size := Nat.le_trans HBX.out.size hb3.size
  have HOv := Lib.hid (HOv1.out Z (HT.out.below HBZ.out))
  clear hb3 hG0 hG1 hz2 hbY hbZ hz2Z hG0Z hG1Z HA1 HOv1
  go_wp2_with fail
  refine HOv.out.mono ?_
  rintro x w5 ⟨qo, co, rfl, hro, hb5⟩
  have HB5 : Hid (Below w.heap.size w w5) := Lib.hid (HBZ.out.trans (hb5.mono HBZ.out.size))
  have HG5 := Lib.hid (And.intro ((hb5.block _ (block_lt HGZ.out.1)).trans HGZ.out.1) (And.intro ((hb5.block _ (block_lt HGZ.out.2.1)).trans HGZ.out.2.1) ((hb5.block _ (block_lt HGZ.out.2.2)).trans HGZ.out.2.2)))
  have HQ5 : Hid (w5.ownsRow base 49 5 (.slice q L.length c) L.length (cellsTs L)) := Lib.hid (row_keep HQ.out fun j hj => HB5.out.block j (row_lt HQ.out j hj))
  have HCo : Hid (Cl w5 (fun _ => True) (.slice qo O.length co) O.length (cellsTs O)) := Lib.hid (Cl.of_own hro (by omega) (fun _ _ => trivial) (cellsTs_len O))
  have HLo := Lib.hid (cellsTs_len O)
  have HOo : Hid (∀ x ∈ cellsTs O, x.oneCell' = true) := Lib.hid (by intro x hx; obtain ⟨l, hl1, hl2⟩ := List.mem_flatten.1 hx; obtain ⟨t, _, rfl⟩ := List.mem_map.1 hl1; exact cT_one t x hl2)
  have hs5 : base ≤ w5.heap.size := Nat.le_trans HBa.out HB5.out.size
  clear hb5 hro s0 s1 v0 v1 v2 v3 HOv
  go_wp2_with (at_builtin; refine slTab.wpList_append rfl (.tmp 16) (.tmp 24) rfl base (v := .slice q L.length c) (u := .slice qo O.length co) rfl rfl HQ5.out HCo.out HLo.out HOo.out (by omega) hs5 ?_
               intro v6 w6 ho6 hg6 ha6
               rw [HUc.out, ← HUl.out] at ho6
               obtain ⟨q6, c6, rfl, _, _⟩ := row_shape ho6
               have HO6 : Hid (w6.ownsRow base 49 5 (.slice q6 U.length c6) U.length (cellsTs U)) := Lib.hid ho6
               have HG6 := Lib.hid hg6
               clear ho6 hg6 ha6)
  have hk6 : ∀ {b : Nat} {cs : Array Value} {t : TypeId} {z : Nat × Nat}, w5.heap[b]? = some (.cells cs t z) → t ≠ 49 → w6.heap[b]? = some (.cells cs t z) := fun {b cs t z} h1 h2 => (HG6.out.block b (block_lt h1) (fun e => by
    obtain ⟨cur, hc⟩ := row_heap HQ5.out e.symm
    exact kind_ne h1 hc h2 rfl)).trans h1
  have hb56 : Below base w5 w6 := (Below.refl _ _).grown HG6.out hs5 (fun j hj => row_low HQ5.out j hj)
  have hs56 := hb56.size
  have HJ7 : Hid (JbN w base w.heap.size X0.heap.size w3.heap.size w6.heap.size (.slice p ts.length cap) vs vn vm lv ts U q6 c6 sa sz true (w6.alloc (.cells #[.int .i64 lv, .slice none 0 0, .bool true] 58)) 0 none 0) := Lib.hid (by
    have hbA : Below w6.heap.size w6 (w6.alloc (.cells #[.int .i64 lv, .slice none 0 0, .bool true] 58)) := belowA _ _
    have g0 := hk6 HG5.out.1 (by decide)
    have g1 := hk6 HG5.out.2.1 (by decide)
    have g2 := hk6 HG5.out.2.2 (by decide)
    have h3 := block_lt g1
    have h5 := HB5.out.size
    refine ⟨(hbA.block _ (block_lt g0)).trans g0, (hbA.block _ (block_lt g1)).trans g1, (hbA.block _ (block_lt g2)).trans g2, heap_alloc_new w6 _, by omega, World.ownsRow_nil _ _ _ _, row_keep HO6.out fun j hj => hbA.block j (row_lt HO6.out j hj), ?_, ?_, HBa.out, Nat.le_refl _, hs0, hs3, by omega⟩
    · exact Cl.step (HT.out.below HB5.out) (Fr.of_below (hb56.trans (hbA.mono (by omega)))) (fun j _ hj hle => by omega)
    · exact ((HB5.out.mono HBa.out).trans hb56).trans (hbA.mono (by omega)))
  clear hk6 hb56 hs56
  go_wp2_with fail
  go_loopw [30] (fun iv wr => ∃ (k : Nat) (ip : Option Addr) (ic : Nat), k ≤ U.length ∧ iv = .int .i64 (k : Int) ∧ Hid (JbN w base w.heap.size X0.heap.size w3.heap.size w6.heap.size (.slice p ts.length cap) vs vn vm lv ts U q6 c6 sa sz true wr k ip ic)) (fun iv _ => U.length - (intOf iv).toNat)
  case atStart => exact ⟨0, none, 0, by omega, rfl, HJ7⟩
  case round =>
    obtain ⟨k, ip, ic, hk, rfl, HJ⟩ := hrel
    generalize wr = wz at *
    by_cases hlt : k < U.length
    · have d5 : decide ((k : Int) < (U.length : Int)) = true := decide_eq_true (by omega)
      have htm : TsM wz (fun _ => True) (.slice q6 U.length c6) U := Cl.of_own HJ.out.tab (by omega) (fun _ _ => trivial) (cellsTs_len U)
      obtain ⟨b2, off2, rfl, hb2, e0, e1, e2, e3, e4⟩ := htm.at_ (List.getElem?_eq_getElem hlt)
      have HFs := Lib.hid (fileV_snoc U k hlt)
      obtain ⟨x, hx⟩ : ∃ x, U[k] = x := ⟨_, rfl⟩
      rw [hx] at e0 e1 e2 e3 e4 HFs
      clear hx
      obtain ⟨xf, xl, xa, xz, xs⟩ := x
      dsimp only at e0 e1 e2 e3 e4 HFs
      have hz := heap_alloc_new wz (.cells #[.int .i64 0, .int .i64 0, .string ⟨#[]⟩, .string ⟨#[]⟩, .int .i64 0] 49)
      obtain ⟨V, hV⟩ : ∃ V, wz.alloc (.cells #[.int .i64 0, .int .i64 0, .string ⟨#[]⟩, .string ⟨#[]⟩, .int .i64 0] 49) = V := ⟨_, rfl⟩
      have hbV : Below wz.heap.size wz V := by rw [← hV]; exact belowA _ _
      rw [hV] at hz
      have f0 := frozen_of (i := 0) hz
      have f1 := frozen_of (i := 1) hz
      have f2 := frozen_of (i := 2) hz
      have f3 := frozen_of (i := 3) hz
      have f4 := frozen_of (i := 4) hz
      have u0 := cell_of (i := 0) hz rfl
      have u1 := cell_of (i := 1) hz rfl
      have u2 := cell_of (i := 2) hz rfl
      have u3 := cell_of (i := 3) hz rfl
      have u4 := cell_of (i := 4) hz rfl
      obtain ⟨R, hR⟩ : ∃ R, set5 V wz.heap.size (.int .i64 xf) (.int .i64 xl) (.string ⟨xa.toArray⟩) (.string ⟨xz.toArray⟩) (.int .i64 xs) = R := ⟨_, rfl⟩
      have hbR : Below wz.heap.size wz R := by rw [← hR]; exact hbV.trans ((set5_fr V wz.heap.size _ _ _ _ _ (fun k => k = wz.heap.size) rfl).below hbV.size (fun k hk e => by omega))
      have hRa : R.heap[wz.heap.size]? = some (.cells #[.int .i64 xf, .int .i64 xl, .string ⟨xa.toArray⟩, .string ⟨xz.toArray⟩, .int .i64 xs] 49 (0, 0)) := by rw [← hR]; exact set5_heap hz _ _ _ _ _
      unfold set5 at hR
      have x0 := cell_of (i := 0) hRa rfl
      have x1 := cell_of (i := 1) hRa rfl
      have x2 := cell_of (i := 2) hRa rfl
      have x3 := cell_of (i := 3) hRa rfl
      have x4 := cell_of (i := 4) hRa rfl
      have HJR := Lib.hid (HJ.out.after hbR)
      have HbR := Lib.hid hbR
      have HRw : Hid ((R.alloc (.cells #[.int .i64 xf] 3)).ownsRow w.heap.size 3 1 (.slice ip k ic) k (fileV (U.take k))) := Lib.hid (row_keep HJR.out.ints fun j hj => alloc_old (row_lt HJR.out.ints j hj) _)
      have HNw : Hid (Cl (R.alloc (.cells #[.int .i64 xf] 3)) (fun _ => True) (.slice (some ⟨R.heap.size, 0, none⟩) 1 1) 1 [.int .i64 xf]) := Lib.hid (Cl.new R (fun _ => True) 1 [.int .i64 xf] _ _ rfl (by omega) trivial)
      have hRs : w.heap.size ≤ R.heap.size := Nat.le_trans (Nat.le_trans HJ.out.b3 (Nat.le_of_lt (block_lt HJ.out.jb))) hbR.size
      have j1 := cell_of (i := 1) HJR.out.jb rfl
      clear hz hbV hbR hRa htm
      go_wp2_with (at_builtin; refine slInt.wpList_append rfl (.tmp 35) (.tmp 38) rfl w.heap.size (v := .slice ip k ic) (u := .slice (some ⟨R.heap.size, 0, none⟩) 1 1) rfl rfl HRw.out HNw.out rfl (by intro x hx; rw [List.mem_singleton.1 hx]; rfl) (by omega) (by simp; omega) ?_
                   intro v9 w9 ho9 hg9 ha9
                   obtain ⟨p9, c9, rfl, _, _⟩ := row_shape ho9
                   rw [← HFs.out] at ho9
                   have HJ9 := Lib.hid (HJ.out.put (HbR.out.alloc HbR.out.size _) ho9 hg9)
                   have j9 : w9.heap[w6.heap.size]? = _ := (hg9.block _ (Nat.lt_of_lt_of_le (block_lt HJR.out.jb) (by simp)) (fun e => by
                     obtain ⟨cur, hc⟩ := row_heap HRw.out e.symm
                     exact kind_ne ((alloc_old (block_lt HJR.out.jb) _).trans HJR.out.jb) hc (by decide) rfl)).trans ((alloc_old (block_lt HJR.out.jb) _).trans HJR.out.jb)
                   have n1 := cell_of (i := 1) j9 rfl
                   have z1 := frozen_of (i := 1) j9
                   clear ho9 hg9 ha9 j9)
      go_roundw
      case rel => exact ⟨k + 1, p9, c9, by omega, by go_num, HJ9⟩
      case measure => simp [intOf]; omega
    · obtain rfl : k = U.length := by omega
      have d5 : decide ((U.length : Int) < (U.length : Int)) = false := by simp
      have HA8 := Lib.hid (HAr.out wz q6 c6 U t0 HU0.out (by omega) HJ.out.tab)
      obtain ⟨s, hs⟩ : ∃ s, stS t0 U = s := ⟨_, rfl⟩
      rw [hs] at HA8
      obtain ⟨ya, yz⟩ := s
      have HS := Lib.hid hs
      clear hs
      dsimp only at HA8
      go_wp2_with fail
      refine HA8.out.mono ?_
      rintro x w8 ⟨rfl, hb8⟩
      have HJ8 := Lib.hid (HJ.out.after hb8)
      have s0 := cell_of (i := 0) HJ8.out.st rfl
      have s1 := cell_of (i := 1) HJ8.out.st rfl
      have z0 := frozen_of (i := 0) HJ8.out.st
      have z1 := frozen_of (i := 1) HJ8.out.st
      clear hb8 HA8
      have HJ9 := Lib.hid (HJ8.out.again ya yz)
      go_wp2_with fail
      go_step3
      go_wp2_with fail
      generalize ((w8.setCell ⟨w3.heap.size, 0, none⟩ (.string ⟨ya.toArray⟩)).setCell ⟨w3.heap.size, 1, none⟩ (.string ⟨yz.toArray⟩)) = w9 at *
      clear s0 s1 z0 z1 HJ8
      go_loopw [11] (fun mv wr => ∃ m : Int, lv + 2 ≤ m ∧ m ≤ 7 ∧ mv = .int .i64 m ∧ Hid ((JbN w base w.heap.size X0.heap.size w3.heap.size w6.heap.size (.slice p ts.length cap) vs vn vm lv ts U q6 c6 ya yz true wr U.length ip ic) ∧ ∀ j : Int, lv + 2 ≤ j → j < m → ovT j (ya, yz) ts = [])) (fun mv _ => (7 - intOf mv).toNat)
      case atStart => exact ⟨lv + 2, by omega, by omega, rfl, Lib.hid ⟨HJ9.out, fun j h1 h2 => by omega⟩⟩
      case round =>
        obtain ⟨m, hm1, hm2, rfl, HJm⟩ := hrel
        generalize wr = wy at *
        by_cases hm : m ≤ 6
        · have d1 : decide (m ≤ 6) = true := decide_eq_true hm
          have hwm : IntKind.i64.wrap (m + 1) = m + 1 := IntWalk.i64_in _ (by omega)
          have b0 := cell_of (i := 0) HJm.out.1.box rfl
          have b1 := cell_of (i := 1) HJm.out.1.box rfl
          have b2 := cell_of (i := 2) HJm.out.1.box rfl
          have b3 := cell_of (i := 3) HJm.out.1.box rfl
          have HAt := Lib.hid (at_any wy (fun k => k < base) (.slice p ts.length cap) ts vs vn vm m HJm.out.1.tv_ (by omega))
          have HOm : Hid (ovT m (ya, yz) ts = (lvT m ts).filter (shY (ya, yz))) := Lib.hid rfl
          have hL2 := lvT_len m ts
          generalize lvT m ts = L2 at *
          go_wp2_with fail
          refine HAt.out.mono ?_
          rintro x w10 ⟨qe, ce, rfl, hro, hb10⟩
          have HJ10 := Lib.hid (HJm.out.1.after hb10)
          have HL2 : Hid (TsM w10 (fun _ => True) (.slice qe L2.length ce) L2) := Lib.hid (Cl.of_own hro (by omega) (fun _ _ => trivial) (cellsTs_len L2))
          clear hb10 b0 b1 b2 b3 HAt hro
          go_wp2_with fail
          go_loopw [54] (fun iv wr => ∃ k2 : Nat, k2 ≤ L2.length ∧ iv = .int .i64 (k2 : Int) ∧ Hid ((JbN w base w.heap.size X0.heap.size w3.heap.size w6.heap.size (.slice p ts.length cap) vs vn vm lv ts U q6 c6 ya yz true wr U.length ip ic) ∧ Below w10.heap.size w10 wr ∧ ∀ t ∈ L2.take k2, shY (ya, yz) t = false)) (fun iv _ => L2.length - (intOf iv).toNat)
          case atStart => exact ⟨0, by omega, rfl, Lib.hid ⟨HJ10.out, Below.refl _ _, fun t ht => by simp at ht⟩⟩
          case round =>
            obtain ⟨k2, hk2, rfl, HK⟩ := hrel
            generalize wr = wx at *
            by_cases hlt2 : k2 < L2.length
            · have d6 : decide ((k2 : Int) < (L2.length : Int)) = true := decide_eq_true (by omega)
              obtain ⟨b1, off1, rfl, hbl, e0, e1, e2, e3, e4⟩ := (HL2.out.below HK.out.2.1).at_ (List.getElem?_eq_getElem hlt2)
              have HTk : Hid (∀ t ∈ L2.take (k2 + 1), t ∈ L2.take k2 ∨ t = L2[k2]) := Lib.hid (fun t ht => by
                rw [take_snoc L2 k2 _ (List.getElem?_eq_getElem hlt2)] at ht
                rcases List.mem_append.1 ht with ht | ht
                · exact .inl ht
                · exact .inr (List.mem_singleton.1 ht))
              have HMm := Lib.hid (List.getElem_mem hlt2)
              obtain ⟨x, hx⟩ : ∃ x, L2[k2] = x := ⟨_, rfl⟩
              rw [hx] at e0 e1 e2 e3 e4 HTk HMm
              clear hx
              obtain ⟨xf, xl, xa, xz, xs⟩ := x
              dsimp only at e0 e1 e2 e3 e4
              have hz := heap_alloc_new wx (.cells #[.int .i64 0, .int .i64 0, .string ⟨#[]⟩, .string ⟨#[]⟩, .int .i64 0] 49)
              obtain ⟨V, hV⟩ : ∃ V, wx.alloc (.cells #[.int .i64 0, .int .i64 0, .string ⟨#[]⟩, .string ⟨#[]⟩, .int .i64 0] 49) = V := ⟨_, rfl⟩
              have hbV : Below wx.heap.size wx V := by rw [← hV]; exact belowA _ _
              rw [hV] at hz
              have f0 := frozen_of (i := 0) hz
              have f1 := frozen_of (i := 1) hz
              have f2 := frozen_of (i := 2) hz
              have f3 := frozen_of (i := 3) hz
              have f4 := frozen_of (i := 4) hz
              have u0 := cell_of (i := 0) hz rfl
              have u1 := cell_of (i := 1) hz rfl
              have u2 := cell_of (i := 2) hz rfl
              have u3 := cell_of (i := 3) hz rfl
              have u4 := cell_of (i := 4) hz rfl
              obtain ⟨R, hR⟩ : ∃ R, set5 V wx.heap.size (.int .i64 xf) (.int .i64 xl) (.string ⟨xa.toArray⟩) (.string ⟨xz.toArray⟩) (.int .i64 xs) = R := ⟨_, rfl⟩
              have hbR : Below wx.heap.size wx R := by rw [← hR]; exact hbV.trans ((set5_fr V wx.heap.size _ _ _ _ _ (fun k => k = wx.heap.size) rfl).below hbV.size (fun k hk e => by omega))
              have hRa : R.heap[wx.heap.size]? = some (.cells #[.int .i64 xf, .int .i64 xl, .string ⟨xa.toArray⟩, .string ⟨xz.toArray⟩, .int .i64 xs] 49 (0, 0)) := by rw [← hR]; exact set5_heap hz _ _ _ _ _
              unfold set5 at hR
              have x0 := cell_of (i := 0) hRa rfl
              have x1 := cell_of (i := 1) hRa rfl
              have x2 := cell_of (i := 2) hRa rfl
              have x3 := cell_of (i := 3) hRa rfl
              have x4 := cell_of (i := 4) hRa rfl
              have HJR := Lib.hid (HK.out.1.after hbR)
              have HBR : Hid (Below w10.heap.size w10 R) := Lib.hid (HK.out.2.1.trans (hbR.mono HK.out.2.1.size))
              have s0 := cell_of (i := 0) HJR.out.st rfl
              have s1 := cell_of (i := 1) HJR.out.st rfl
              have HSh := Lib.hid (shares_any R ya yz xa xz xf xl xs)
              obtain ⟨y, hy⟩ : ∃ y, shY (ya, yz) ⟨xf, xl, xa, xz, xs⟩ = y := ⟨_, rfl⟩
              have HY := Lib.hid hy
              rw [hy] at HSh
              clear hz hbV hbR hRa hy
              go_wp2_with fail
              refine HSh.out.mono ?_
              rintro r w11 ⟨rfl, hb11⟩
              have HJ11 := Lib.hid (HJR.out.after hb11)
              have HB11 : Hid (Below w10.heap.size w10 w11) := Lib.hid (HBR.out.trans (hb11.mono HBR.out.size))
              clear hb11
              cases y
              · go_wp2_with fail
                go_roundw
                case rel => exact ⟨k2 + 1, by omega, by go_num, Lib.hid ⟨HJ11.out, HB11.out, fun t ht => (HTk.out t ht).elim (fun g => HK.out.2.2 t g) (fun g => by rw [g]; exact HY.out)⟩⟩
                case measure => simp [intOf]; omega
              · have g2 := frozen_of (i := 2) HJ11.out.jb
                have g3 := cell_of (i := 2) HJ11.out.jb rfl
                have hjz := HJ11.out.high
                obtain ⟨Wb, hWb⟩ : ∃ W, w11.setCell ⟨w6.heap.size, 2, none⟩ (.bool false) = W := ⟨_, rfl⟩
                rw [hWb] at hjz
                have HJz := Lib.hid hjz
                have HBad : Hid (¬ ∀ j : Int, lv + 2 ≤ j → j ≤ 6 → ovT j (stS t0 U) ts = []) := Lib.hid (fun h => by
                  have h3 := h m hm1 hm
                  rw [HS.out, HOm.out, List.filter_eq_nil_iff] at h3
                  exact absurd HY.out (h3 _ HMm.out))
                clear hjz
                have r0 := cell_of (i := 0) HJz.out.res rfl
                have r1 := cell_of (i := 1) HJz.out.res rfl
                have r2 := cell_of (i := 2) HJz.out.res rfl
                have y0 := frozen_of (i := 0) HJz.out.res
                have y1 := frozen_of (i := 1) HJz.out.res
                have y2 := frozen_of (i := 2) HJz.out.res
                have j0 := cell_of (i := 0) HJz.out.jb rfl
                have j1 := cell_of (i := 1) HJz.out.jb rfl
                have j2 := cell_of (i := 2) HJz.out.jb rfl
                go_wp2_with fail
                rw [Exit.noGoto_ret]
                have q1 := setCell_same (off := 0) HJz.out.res (.int .i64 lv)
                have q2 := setCell_same (off := 1) q1 (.slice ip U.length ic)
                have q3 := setCell_same (off := 2) q2 (.bool false)
                refine bodyPost_ret (v := .agg #[.int .i64 lv, .slice ip U.length ic, .bool false]) (results_job rfl _ _ X0.heap.size _ rfl (by simpa using q3) rfl) rfl ⟨U, ip, ic, false, rfl, rfl, ⟨fun h => (by cases h), fun h => (HBad.out h).elim⟩, ?_, ?_⟩
                · refine row_keep (by have hI := HJz.out.ints; rw [List.take_length] at hI; exact hI) fun j hj => ?_
                  obtain ⟨cur, hc⟩ := row_heap HJz.out.ints hj
                  have hne : j ≠ X0.heap.size := kind_ne hc HJz.out.res (by decide)
                  exact (setCell_other hne _).trans ((setCell_other hne _).trans (setCell_other hne _))
                · have hx0 : base ≤ X0.heap.size := Nat.le_trans HBa.out hs0
                  exact ((HJz.out.bel.setCell (p := ⟨X0.heap.size, 0, none⟩) hx0 _).setCell (p := ⟨X0.heap.size, 1, none⟩) hx0 _).setCell (p := ⟨X0.heap.size, 2, none⟩) hx0 _
            · obtain rfl : k2 = L2.length := by omega
              have d6 : decide ((L2.length : Int) < (L2.length : Int)) = false := by simp
              have HNo : Hid (ovT m (ya, yz) ts = []) := Lib.hid (by
                rw [HOm.out, List.filter_eq_nil_iff]
                intro t ht
                have h3 := HK.out.2.2 t (by rw [List.take_length]; exact ht)
                rw [h3]
                decide)
              go_wp2_with fail
              go_roundw
              case rel => exact ⟨m + 1, by omega, by omega, by go_num, Lib.hid ⟨HK.out.1, fun j h1 h2 => by
                by_cases hj : j = m
                · rw [hj]; exact HNo.out
                · exact HJm.out.2 j h1 (by omega)⟩⟩
              case measure => simp [intOf]; omega
        · obtain rfl : m = 7 := by omega
          have d1 : decide ((7 : Int) ≤ 6) = false := by decide
          have HJz := Lib.hid HJm.out.1
          have r0 := cell_of (i := 0) HJz.out.res rfl
          have r1 := cell_of (i := 1) HJz.out.res rfl
          have r2 := cell_of (i := 2) HJz.out.res rfl
          have y0 := frozen_of (i := 0) HJz.out.res
          have y1 := frozen_of (i := 1) HJz.out.res
          have y2 := frozen_of (i := 2) HJz.out.res
          have j0 := cell_of (i := 0) HJz.out.jb rfl
          have j1 := cell_of (i := 1) HJz.out.jb rfl
          have j2 := cell_of (i := 2) HJz.out.jb rfl
          go_wp2_with fail
          have q1 := setCell_same (off := 0) HJz.out.res (.int .i64 lv)
          have q2 := setCell_same (off := 1) q1 (.slice ip U.length ic)
          have q3 := setCell_same (off := 2) q2 (.bool true)
          refine bodyPost_ret (v := .agg #[.int .i64 lv, .slice ip U.length ic, .bool true]) (results_job rfl _ _ X0.heap.size _ rfl (by simpa using q3) rfl) rfl ⟨U, ip, ic, true, rfl, rfl, ⟨fun _ j h1 h2 => by rw [HS.out]; exact HJm.out.2 j h1 (by omega), fun _ => rfl⟩, ?_, ?_⟩
          · refine row_keep (by have hI := HJz.out.ints; rw [List.take_length] at hI; exact hI) fun j hj => ?_
            obtain ⟨cur, hc⟩ := row_heap HJz.out.ints hj
            have hne : j ≠ X0.heap.size := kind_ne hc HJz.out.res (by decide)
            exact (setCell_other hne _).trans ((setCell_other hne _).trans (setCell_other hne _))
          · have hx0 : base ≤ X0.heap.size := Nat.le_trans HBa.out hs0
            exact ((HJz.out.bel.setCell (p := ⟨X0.heap.size, 0, none⟩) hx0 _).setCell (p := ⟨X0.heap.size, 1, none⟩) hx0 _).setCell (p := ⟨X0.heap.size, 2, none⟩) hx0 _
end Go.Proofs.Yteclnnjijfbfoaa

/-
  The walks over compact.within, Check, of any numbers.
-/
namespace Go.Proofs.Yteclnnjijfbfoaa
open Go.RowKit

def wIn (n most : Int) : Int := if n < 1 then 1 else if most < n then most else n
set_option maxRecDepth 100000 in
theorem within_any (w : World) (n most : Int) (hm : 1 ≤ most) : Calls Try.prog 23 #[.int .i64 n, .int .i64 most] w fun x w' => x = .returned (.int .i64 (wIn n most)) ∧ w = w' := by
  have h0 : ¬ most < 1 := by omega
  by_cases h1 : n < 1
  · have HW : Hid (wIn n most = 1) := Lib.hid (by unfold wIn; rw [if_pos h1])
    rw [HW.out]
    have d1 : max n 1 = 1 := by omega
    have d2 : min 1 most = 1 := by omega
    go_enter Try.func23, Try.ntmps23
    go_wp2_with fail
    go_ret
    exact ⟨rfl, rfl⟩
  · have d1 : max n 1 = n := by omega
    by_cases h2 : most < n
    · have HW : Hid (wIn n most = most) := Lib.hid (by unfold wIn; rw [if_neg h1, if_pos h2])
      rw [HW.out]
      have d2 : min n most = most := by omega
      go_enter Try.func23, Try.ntmps23
      go_wp2_with fail
      go_ret
      exact ⟨rfl, rfl⟩
    · have HW : Hid (wIn n most = n) := Lib.hid (by unfold wIn; rw [if_neg h1, if_neg h2])
      rw [HW.out]
      have d2 : min n most = n := by omega
      go_enter Try.func23, Try.ntmps23
      go_wp2_with fail
      go_ret
      exact ⟨rfl, rfl⟩
theorem wIn_eq (n most : Int) : (wIn n most = n) ↔ (1 ≤ n ∧ n ≤ most) := by
  unfold wIn
  split
  · constructor <;> intro h <;> omega
  · split
    · constructor <;> intro h <;> omega
    · constructor <;> intro h <;> omega
attribute [irreducible] wIn
def okS (z b t : Int) : Bool := z == wIn z 100 && b == wIn b 1073741824 && t == wIn t 67108864
theorem okS_iff {z b t : Int} : okS z b t = true ↔ ((1 ≤ z ∧ z ≤ 100) ∧ (1 ≤ b ∧ b ≤ 1073741824)) ∧ (1 ≤ t ∧ t ≤ 67108864) := by
  rw [← wIn_eq z 100, ← wIn_eq b 1073741824, ← wIn_eq t 67108864]
  unfold okS
  simp only [Bool.and_eq_true, beq_iff_eq]
  constructor
  · rintro ⟨⟨h1, h2⟩, h3⟩; exact ⟨⟨h1.symm, h2.symm⟩, h3.symm⟩
  · rintro ⟨⟨h1, h2⟩, h3⟩; exact ⟨⟨h1.symm, h2.symm⟩, h3.symm⟩

set_option maxRecDepth 100000 in
set_option maxHeartbeats 4000000 in
theorem check_any (w : World) (z b t : Int) : Calls Try.prog 12 #[.agg #[.int .i64 z, .int .i64 b, .int .i64 t]] w fun x w' => x = .returned (.int .i64 (if okS z b t = true then 0 else 1)) ∧ Below w.heap.size w w' := by
  have hz := heap_alloc_new w (.cells #[.int .i64 z, .int .i64 b, .int .i64 t] 40)
  obtain ⟨X, hX⟩ : ∃ X, w.alloc (.cells #[.int .i64 z, .int .i64 b, .int .i64 t] 40) = X := ⟨_, rfl⟩
  have HB : Hid (Below w.heap.size w X) := Lib.hid (by rw [← hX]; exact belowA _ _)
  rw [hX] at hz
  have c0 := cell_of (i := 0) hz rfl
  have c1 := cell_of (i := 1) hz rfl
  have c2 := cell_of (i := 2) hz rfl
  clear hz
  obtain ⟨p1, h1⟩ : ∃ p, (z == wIn z 100) = p := ⟨_, rfl⟩
  obtain ⟨p2, h2⟩ : ∃ p, (b == wIn b 1073741824) = p := ⟨_, rfl⟩
  obtain ⟨p3, h3⟩ : ∃ p, (t == wIn t 67108864) = p := ⟨_, rfl⟩
  have HO : Hid (okS z b t = (p1 && p2 && p3)) := Lib.hid (by unfold okS; rw [h1, h2, h3])
  rw [HO.out]
  clear HO
  have HW := Lib.hid (fun (V : World) (n most : Int) (hm : 1 ≤ most) => within_any V n most hm)
  cases p1 <;> cases p2 <;> cases p3
  all_goals
    go_enter Try.func12, Try.ntmps12
    go_upto_region 1 with (fail)
    go_quiet ((go_at_call 23; exact q_sameA (HW.out _ _ _ (by omega))))
    go_wp2_with fail
    go_ret
    exact ⟨rfl, below_drewN HB.out _⟩
end Go.Proofs.Yteclnnjijfbfoaa

/-
  The walks over compact's sum.plus, above, of sums below 2^63 (not pruned).
-/
namespace Go.Proofs.Yteclnnjijfbfoaa
open Go.RowKit

theorem add64_here (x y : Nat) (w : World) : (callFunc 59 #[.int .u64 (x : Int), .int .u64 (y : Int), .int .u64 0]).run Try.prog w = .ok (.value (.tuple #[.int .u64 (((x : Int) + (y : Int) + 0) % 18446744073709551616), .int .u64 (((x : Int) + (y : Int) + 0) / 18446744073709551616)])) w := by
  rw [run_callFunc_extern Try.func59 (by kernel_rfl) (by kernel_rfl) (by kernel_rfl) (e := add64Entry) (by kernel_rfl), run_add64 x y 0 (by omega) (by omega) (by omega) (by omega)]
  rfl

set_option maxRecDepth 100000 in
set_option maxHeartbeats 1000000 in
theorem above_any (w : World) (l : Nat) (b : Int) : Calls Try.prog 46 #[.agg #[.int .u64 0, .int .u64 (l : Int)], .int .u64 b] w fun x w' => x = .returned (.bool (decide (b < (l : Int)))) ∧ Below w.heap.size w w' := by
  obtain ⟨y, hy⟩ : ∃ y, decide (b < (l : Int)) = y := ⟨_, rfl⟩
  rw [hy]
  cases y
  all_goals
    go_enter Try.func46, Try.ntmps46
    go_wp2_with fail
    go_ret
    exact ⟨rfl, belowA _ _⟩

theorem sumInfo (cs : Array Value) (hs : cs.size = 2) : (Try.prog.info? 97).map (·.size) = some cs.size := by rw [hs]; kernel_rfl
theorem results_sum {fn : Func} {p : Tmp} (h : fn.results = #[.cell p 97]) (tmps : Array Value) (w : World) (g : Nat) (cs : Array Value) (hp : tmps.getD p undef = .pointer (some ⟨g, 0, none⟩))
    (hg : w.heap[g]? = some (.cells cs 97 (0, 0))) (hs : cs.size = 2) : (results fn tmps).run Try.prog w = .ok (.agg cs) w :=
  results_cell_row h tmps w g _ cs (0, 0) _ hp hg Try.underlying97 rfl (sumInfo cs hs)

set_option maxRecDepth 100000 in
set_option maxHeartbeats 1000000 in
theorem plus_any (w : World) (l n : Nat) (hl : l + n < 9223372036854775808) : Calls Try.prog 45 #[.agg #[.int .u64 0, .int .u64 (l : Int)], .int .i64 (n : Int)] w fun x w' => x = .returned (.agg #[.int .u64 0, .int .u64 ((l + n : Nat) : Int)]) ∧ Below w.heap.size w w' := by
  have hw1 : IntKind.u64.wrap (n : Int) = (n : Int) := IntWalk.u64_in _ (by omega)
  have hm : ((l : Int) + (n : Int) + 0) % 18446744073709551616 = ((l + n : Nat) : Int) := by omega
  have hd : ((l : Int) + (n : Int) + 0) / 18446744073709551616 = 0 := by omega
  have HA : ∀ W, (callFunc 59 #[.int .u64 (l : Int), .int .u64 (n : Int), .int .u64 0]).run Try.prog W = .ok (.value (.tuple #[.int .u64 ((l + n : Nat) : Int), .int .u64 0])) W := fun W => by rw [add64_here l n W, hm, hd]
  have hsh : (n : Int) / 9223372036854775808 = 0 := by omega
  have HS := Lib.hid HA
  clear hm hd HA
  have hz0 := heap_alloc_new w (.cells #[.int .u64 0, .int .u64 (l : Int)] 97)
  obtain ⟨X, hX⟩ : ∃ X, w.alloc (.cells #[.int .u64 0, .int .u64 (l : Int)] 97) = X := ⟨_, rfl⟩
  have hbX : Below w.heap.size w X := by rw [← hX]; exact belowA _ _
  rw [hX] at hz0
  have hz1 := heap_alloc_new X (.cells #[.int .u64 0, .int .u64 0] 97)
  obtain ⟨Y, hY⟩ : ∃ Y, X.alloc (.cells #[.int .u64 0, .int .u64 0] 97) = Y := ⟨_, rfl⟩
  have hbY : Below X.heap.size X Y := by rw [← hY]; exact belowA _ _
  rw [hY] at hz1
  have hzY := (hbY.block _ (block_lt hz0)).trans hz0
  have s0 := cell_of (i := 0) hzY rfl
  have s1 := cell_of (i := 1) hzY rfl
  have u0 := cell_of (i := 0) hz1 rfl
  have u1 := cell_of (i := 1) hz1 rfl
  have f0 := frozen_of (i := 0) hz1
  have f1 := frozen_of (i := 1) hz1
  have HB : Hid (Below w.heap.size w Y) := Lib.hid (hbX.trans (hbY.mono hbX.size))
  have HZ := Lib.hid hz1
  have hXs := hbX.size
  have hAA := HS.out
  clear hz0 hz1 hzY hbX hbY
  go_enter Try.func45, Try.ntmps45
  go_wp2_with (simp only [hAA])
  have q1 := setCell_same (off := 0) HZ.out (.int .u64 0)
  have q2 := setCell_same (off := 1) q1 (.int .u64 ((l : Int) + (n : Int)))
  refine bodyPost_ret (v := .agg #[.int .u64 0, .int .u64 ((l : Int) + (n : Int))]) (results_sum rfl _ _ X.heap.size _ rfl (by simpa using q2) rfl) rfl ⟨by rw [Int.natCast_add], ?_⟩
  exact (HB.out.setCell (p := ⟨X.heap.size, 0, none⟩) hXs _).setCell (p := ⟨X.heap.size, 1, none⟩) hXs _
end Go.Proofs.Yteclnnjijfbfoaa

/-
  The walk over compact.heavy, of any tables.
-/
namespace Go.Proofs.Yteclnnjijfbfoaa
open Go.RowKit

def wT (l : List Tab) : Nat := (l.map fun t => t.size.toNat).sum
theorem wT_snoc (l : List Tab) (k : Nat) (h : k < l.length) : wT (l.take (k + 1)) = wT (l.take k) + l[k].size.toNat := by
  unfold wT
  rw [take_snoc l k _ (List.getElem?_eq_getElem h), List.map_append, List.sum_append]
  simp
theorem wT_take (l : List Tab) (k : Nat) : wT (l.take k) ≤ wT l := by
  have h : wT (l.take k) + wT (l.drop k) = wT l := by
    unfold wT
    rw [← List.sum_append, ← List.map_append, List.take_append_drop]
  omega
theorem wT_lv (lv : Int) : ∀ l : List Tab, wT (lvT lv l) ≤ wT l
  | [] => Nat.le_refl _
  | t :: r => by
    have ih := wT_lv lv r
    unfold lvT wT at *
    rw [List.filter_cons]
    split
    · simp only [List.map_cons, List.sum_cons]; omega
    · simp only [List.map_cons, List.sum_cons]; omega
def zeT : Tab := ⟨0, 0, [], [], 0⟩
def gr1 (g t : Tab) : Tab := if g.size < t.size then t else g
def grT (l : List Tab) : Tab := l.foldl gr1 zeT
theorem grT_snoc (l : List Tab) (k : Nat) (h : k < l.length) : grT (l.take (k + 1)) = gr1 (grT (l.take k)) l[k] := by
  unfold grT
  rw [take_snoc l k _ (List.getElem?_eq_getElem h), List.foldl_append]
  rfl
def pwB (b m : Nat) : Nat := if m = 1 then b else if m = 2 then 10 * b else if m = 3 then 100 * b else if m = 4 then 1000 * b else if m = 5 then 10000 * b else 100000 * b
/-- What heavy goes on with. -/
structure HvN (w : World) (g0 g1 : Nat) (tv : Value) (vs vn vm : Int) (wr : World) : Prop where
  box : wr.heap[g0]? = some (.cells #[tv, .int .u64 vs, .int .i64 vn, .int .i64 vm] 44 (0, 0))
  res : wr.heap[g1]? = some (.cells #[.int .i64 0, .int .i64 0, .string ⟨#[]⟩, .string ⟨#[]⟩, .int .i64 0] 49 (0, 0))
  bel : Below w.heap.size w wr
  b1 : w.heap.size ≤ g1
theorem HvN.after {w wr w' : World} {g0 g1 : Nat} {tv : Value} {vs vn vm : Int} (h : HvN w g0 g1 tv vs vn vm wr) (hb : Below wr.heap.size wr w') : HvN w g0 g1 tv vs vn vm w' :=
  ⟨(hb.block _ (block_lt h.box)).trans h.box, (hb.block _ (block_lt h.res)).trans h.res, h.bel.trans (hb.mono h.bel.size), h.b1⟩
/-- The inner loop: the sum's box, the greatest one's, the level's tables. -/
structure HvI (w : World) (g0 g1 gs gg bx : Nat) (tv : Value) (vs vn vm : Int) (L : List Tab) (q : Option Addr) (c : Nat) (wr : World) (l : Nat) (g : Tab) : Prop where
  hv : HvN w g0 g1 tv vs vn vm wr
  sm : wr.heap[gs]? = some (.cells #[.int .u64 0, .int .u64 (l : Int)] 97 (0, 0))
  gr : wr.heap[gg]? = some (.cells #[.int .i64 g.file, .int .i64 g.level, .string ⟨g.first.toArray⟩, .string ⟨g.last.toArray⟩, .int .i64 g.size] 49 (0, 0))
  row : wr.ownsRow bx 49 5 (.slice q L.length c) L.length (cellsTs L)
  n1 : g1 ≠ gg
  n2 : gg < bx
  n3 : w.heap.size ≤ gs
  n4 : w.heap.size ≤ gg
section
variable {w wr w' : World} {g0 g1 gs gg bx : Nat} {tv : Value} {vs vn vm : Int} {L : List Tab} {q : Option Addr} {c l : Nat} {g : Tab}
theorem HvI.after (h : HvI w g0 g1 gs gg bx tv vs vn vm L q c wr l g) (hb : Below wr.heap.size wr w') : HvI w g0 g1 gs gg bx tv vs vn vm L q c w' l g :=
  ⟨h.hv.after hb, (hb.block _ (block_lt h.sm)).trans h.sm, (hb.block _ (block_lt h.gr)).trans h.gr, row_keep h.row fun j hj => hb.block j (row_lt h.row j hj), h.n1, h.n2, h.n3, h.n4⟩
theorem HvI.setSum (h : HvI w g0 g1 gs gg bx tv vs vn vm L q c wr l g) (l' : Nat) : HvI w g0 g1 gs gg bx tv vs vn vm L q c ((wr.setCell ⟨gs, 0, none⟩ (.int .u64 0)).setCell ⟨gs, 1, none⟩ (.int .u64 (l' : Int))) l' g := by
  have hkd : ∀ {b : Nat} {cs : Array Value} {t : TypeId} {z : Nat × Nat}, wr.heap[b]? = some (.cells cs t z) → t ≠ 97 → ((wr.setCell ⟨gs, 0, none⟩ (.int .u64 0)).setCell ⟨gs, 1, none⟩ (.int .u64 (l' : Int))).heap[b]? = some (.cells cs t z) := fun {b cs t z} h1 h2 =>
    (setCell_other (kind_ne h1 h.sm h2) _).trans ((setCell_other (kind_ne h1 h.sm h2) _).trans h1)
  have q2 := setCell_same (off := 1) (setCell_same (off := 0) h.sm (.int .u64 0)) (.int .u64 (l' : Int))
  refine ⟨⟨hkd h.hv.box (by decide), hkd h.hv.res (by decide), (h.hv.bel.setCell (p := ⟨gs, 0, none⟩) h.n3 _).setCell (p := ⟨gs, 1, none⟩) h.n3 _, h.hv.b1⟩, by simpa using q2, hkd h.gr (by decide), ?_, h.n1, h.n2, h.n3, h.n4⟩
  refine row_keep h.row fun j hj => ?_
  obtain ⟨cur, hc⟩ := row_heap h.row hj
  exact (hkd hc (by decide)).trans hc.symm
theorem HvI.setGr (h : HvI w g0 g1 gs gg bx tv vs vn vm L q c wr l g) (x : Tab) : HvI w g0 g1 gs gg bx tv vs vn vm L q c (set5 wr gg (.int .i64 x.file) (.int .i64 x.level) (.string ⟨x.first.toArray⟩) (.string ⟨x.last.toArray⟩) (.int .i64 x.size)) l x := by
  have hfr := set5_fr wr gg (.int .i64 x.file) (.int .i64 x.level) (.string ⟨x.first.toArray⟩) (.string ⟨x.last.toArray⟩) (.int .i64 x.size) (fun k => k = gg) rfl
  have hb : Below w.heap.size wr (set5 wr gg (.int .i64 x.file) (.int .i64 x.level) (.string ⟨x.first.toArray⟩) (.string ⟨x.last.toArray⟩) (.int .i64 x.size)) := hfr.below h.hv.bel.size (fun k hk e => by have := h.n4; omega)
  refine ⟨⟨(hfr.block _ (block_lt h.hv.box) (kind_ne h.hv.box h.gr (by decide))).trans h.hv.box, (hfr.block _ (block_lt h.hv.res) h.n1).trans h.hv.res, h.hv.bel.trans hb, h.hv.b1⟩, (hfr.block _ (block_lt h.sm) (kind_ne h.sm h.gr (by decide))).trans h.sm, set5_heap h.gr _ _ _ _ _, ?_, h.n1, h.n2, h.n3, h.n4⟩
  exact row_keep h.row fun j hj => hfr.block j (row_lt h.row j hj) (by have := row_low h.row j hj; have := h.n2; omega)
end
def HvP (b : Nat) (ts : List Tab) (t : Tab) : Prop :=
  (∃ m : Nat, 1 ≤ m ∧ m ≤ 5 ∧ (∀ j : Nat, 1 ≤ j → j < m → wT (lvT (j : Int) ts) ≤ pwB b j) ∧ pwB b m < wT (lvT (m : Int) ts) ∧ t = grT (lvT (m : Int) ts)) ∨ ((∀ j : Nat, 1 ≤ j → j ≤ 5 → wT (lvT (j : Int) ts) ≤ pwB b j) ∧ t = zeT)

set_option maxRecDepth 100000 in
set_option maxHeartbeats 4000000 in
theorem heavy_any (w : World) (F : Nat → Prop) (tv : Value) (ts : List Tab) (vs vn vm : Int) (b : Nat) (ht : TsM w F tv ts) (hl : ts.length ≤ 65536) (hs : ∀ t ∈ ts, 0 ≤ t.size) (hw : wT ts < 4611686018427387904) (hb30 : b ≤ 1073741824) :
    Calls Try.prog 28 #[.agg #[tv, .int .u64 vs, .int .i64 vn, .int .i64 vm], .int .i64 (b : Int)] w fun x w' => ∃ t : Tab, x = .returned (.agg #[.int .i64 t.file, .int .i64 t.level, .string ⟨t.first.toArray⟩, .string ⟨t.last.toArray⟩, .int .i64 t.size]) ∧ HvP b ts t ∧ Below w.heap.size w w' := by
  obtain ⟨p, cap, rfl, _⟩ := Cl.form ht
  have hz0 := heap_alloc_new w (.cells #[.slice p ts.length cap, .int .u64 vs, .int .i64 vn, .int .i64 vm] 44)
  obtain ⟨X0, hX0⟩ : ∃ X, w.alloc (.cells #[.slice p ts.length cap, .int .u64 vs, .int .i64 vn, .int .i64 vm] 44) = X := ⟨_, rfl⟩
  have hbX0 : Below w.heap.size w X0 := by rw [← hX0]; exact belowA _ _
  rw [hX0] at hz0
  have hz1 := heap_alloc_new X0 (.cells #[.int .i64 0, .int .i64 0, .string ⟨#[]⟩, .string ⟨#[]⟩, .int .i64 0] 49)
  obtain ⟨X1, hX1⟩ : ∃ X, X0.alloc (.cells #[.int .i64 0, .int .i64 0, .string ⟨#[]⟩, .string ⟨#[]⟩, .int .i64 0] 49) = X := ⟨_, rfl⟩
  have hbX1 : Below X0.heap.size X0 X1 := by rw [← hX1]; exact belowA _ _
  rw [hX1] at hz1
  have hz01 := (hbX1.block _ (block_lt hz0)).trans hz0
  have hs0 : w.heap.size ≤ X0.heap.size := hbX0.size
  have HM : Hid (HvN w w.heap.size X0.heap.size (.slice p ts.length cap) vs vn vm X1) := Lib.hid ⟨hz01, hz1, hbX0.trans (hbX1.mono hbX0.size), hs0⟩
  have HT := Lib.hid ht
  have HSz := Lib.hid hs
  have hwb : IntKind.u64.wrap (b : Int) = (b : Int) := IntWalk.u64_in _ (by omega)
  clear hz0 hz1 hz01 hbX0 hbX1 ht hs
  go_enter Try.func28, Try.ntmps28
  go_wp2_with fail
  go_step3
  go_wp2_with fail
  go_step3
  go_wp2_with fail
  go_loopw [5, 6] (fun lv bv wr => ∃ m : Nat, 1 ≤ m ∧ m ≤ 6 ∧ lv = .int .i64 (m : Int) ∧ bv = .int .u64 (pwB b m : Int) ∧ Hid ((HvN w w.heap.size X0.heap.size (.slice p ts.length cap) vs vn vm wr) ∧ ∀ j : Nat, 1 ≤ j → j < m → wT (lvT (j : Int) ts) ≤ pwB b j)) (fun lv _ _ => 6 - (intOf lv).toNat)
  case atStart => exact ⟨1, by omega, by omega, rfl, by simp [pwB], Lib.hid ⟨HM.out, fun j h1 h2 => by omega⟩⟩
  case round =>
    obtain ⟨m, hm1, hm2, rfl, rfl, HH⟩ := hrel
    generalize wr = wz at *
    by_cases hm : m < 6
    · have d1 : decide ((m : Int) < 6) = true := decide_eq_true (by omega)
      have d1n : decide (m < 6) = true := decide_eq_true hm
      have hz2 := heap_alloc_new wz (.cells #[.int .u64 0, .int .u64 0] 97)
      obtain ⟨Y, hY⟩ : ∃ Y, wz.alloc (.cells #[.int .u64 0, .int .u64 0] 97) = Y := ⟨_, rfl⟩
      have hbY : Below wz.heap.size wz Y := by rw [← hY]; exact belowA _ _
      rw [hY] at hz2
      have hz3 := heap_alloc_new Y (.cells #[.int .i64 0, .int .i64 0, .string ⟨#[]⟩, .string ⟨#[]⟩, .int .i64 0] 49)
      obtain ⟨X, hX⟩ : ∃ X, Y.alloc (.cells #[.int .i64 0, .int .i64 0, .string ⟨#[]⟩, .string ⟨#[]⟩, .int .i64 0] 49) = X := ⟨_, rfl⟩
      have hbX : Below Y.heap.size Y X := by rw [← hX]; exact belowA _ _
      rw [hX] at hz3
      have HHX := Lib.hid (HH.out.1.after (hbY.trans (hbX.mono hbY.size)))
      have HZ2 := Lib.hid ((hbX.block _ (block_lt hz2)).trans hz2)
      have HZ3 := Lib.hid hz3
      have hYs : wz.heap.size < Y.heap.size := block_lt hz2
      have b0 := cell_of (i := 0) HHX.out.box rfl
      have b1 := cell_of (i := 1) HHX.out.box rfl
      have b2 := cell_of (i := 2) HHX.out.box rfl
      have b3 := cell_of (i := 3) HHX.out.box rfl
      have HAt := Lib.hid (at_any X F (.slice p ts.length cap) ts vs vn vm (m : Int) (HT.out.below HHX.out.bel) (by omega))
      have hpw : 0 ≤ (pwB b m : Int) := by omega
      have hml : IntKind.u64.wrap (10 * (pwB b m : Int)) = (pwB b (m + 1) : Int) := by
        have hmm : m = 1 ∨ m = 2 ∨ m = 3 ∨ m = 4 ∨ m = 5 := by omega
        rcases hmm with rfl | rfl | rfl | rfl | rfl <;> (simp only [pwB]; rw [IntWalk.u64_in _ (by simp; omega)]; simp; try omega)
      have hL2 := lvT_len (m : Int) ts
      have hW2 := wT_lv (m : Int) ts
      have HS2 : Hid (∀ t ∈ lvT (m : Int) ts, 0 ≤ t.size) := Lib.hid (fun t ht => HSz.out t (List.mem_filter.1 ht).1)
      have HEq : ∃ L2, lvT (m : Int) ts = L2 := ⟨_, rfl⟩
      obtain ⟨L2, hLe⟩ := HEq
      have HLe := Lib.hid hLe
      rw [hLe] at HAt hL2 hW2 HS2
      have HMl := Lib.hid hml
      generalize hpm : pwB b m = pm at *
      have HPm := Lib.hid hpm
      clear hz2 hz3 hbY hbX hLe hml hpm
      go_wp2_with fail
      refine HAt.out.mono ?_
      rintro x w10 ⟨qe, ce, rfl, hro, hb10⟩
      have hwzs := HH.out.1.bel.size
      have hX0s := block_lt HH.out.1.res
      have HI0 : Hid (HvI w w.heap.size X0.heap.size wz.heap.size Y.heap.size X.heap.size (.slice p ts.length cap) vs vn vm L2 qe ce w10 0 zeT) := Lib.hid ⟨HHX.out.after hb10, (hb10.block _ (block_lt HZ2.out)).trans HZ2.out, (hb10.block _ (block_lt HZ3.out)).trans HZ3.out, hro, by omega, block_lt HZ3.out, by omega, by omega⟩
      clear hb10 b0 b1 b2 b3 HAt hro hwzs hX0s
      go_wp2_with fail
      go_loopw [23] (fun iv wr => ∃ k : Nat, k ≤ L2.length ∧ iv = .int .i64 (k : Int) ∧ Hid (HvI w w.heap.size X0.heap.size wz.heap.size Y.heap.size X.heap.size (.slice p ts.length cap) vs vn vm L2 qe ce wr (wT (L2.take k)) (grT (L2.take k)))) (fun iv _ => L2.length - (intOf iv).toNat)
      case atStart => exact ⟨0, by omega, rfl, HI0⟩
      case round =>
        obtain ⟨k, hk, rfl, HJ⟩ := hrel
        generalize wr = wx at *
        by_cases hlt : k < L2.length
        · have d5 : decide ((k : Int) < (L2.length : Int)) = true := decide_eq_true (by omega)
          have htm : TsM wx (fun _ => True) (.slice qe L2.length ce) L2 := Cl.of_own HJ.out.row (by omega) (fun _ _ => trivial) (cellsTs_len L2)
          obtain ⟨b1, off1, rfl, hbl, e0, e1, e2, e3, e4⟩ := htm.at_ (List.getElem?_eq_getElem hlt)
          have hws := wT_snoc L2 k hlt
          have hwt := wT_take L2 (k + 1)
          have HGs := Lib.hid (grT_snoc L2 k hlt)
          have hx0 := HS2.out _ (List.getElem_mem hlt)
          obtain ⟨x, hx⟩ : ∃ x, L2[k] = x := ⟨_, rfl⟩
          rw [hx] at e0 e1 e2 e3 e4 HGs hws hx0
          clear hx htm
          obtain ⟨xf, xl, xa, xz, xs⟩ := x
          dsimp only at e0 e1 e2 e3 e4 hws hx0
          obtain ⟨xn, rfl⟩ := Int.eq_ofNat_of_zero_le hx0
          rw [Int.toNat_natCast] at hws
          have hsum : wT (L2.take k) + xn < 9223372036854775808 := by omega
          have HWs := Lib.hid hws
          clear hws hwt
          generalize wT (L2.take k) = sl at *
          obtain ⟨g, hg⟩ : ∃ g, grT (L2.take k) = g := ⟨_, rfl⟩
          rw [hg] at HJ HGs
          clear hg
          obtain ⟨gf, gl, ga, gz, gn⟩ := g
          have hz := heap_alloc_new wx (.cells #[.int .i64 0, .int .i64 0, .string ⟨#[]⟩, .string ⟨#[]⟩, .int .i64 0] 49)
          obtain ⟨V, hV⟩ : ∃ V, wx.alloc (.cells #[.int .i64 0, .int .i64 0, .string ⟨#[]⟩, .string ⟨#[]⟩, .int .i64 0] 49) = V := ⟨_, rfl⟩
          have hbV : Below wx.heap.size wx V := by rw [← hV]; exact belowA _ _
          rw [hV] at hz
          have f0 := frozen_of (i := 0) hz
          have f1 := frozen_of (i := 1) hz
          have f2 := frozen_of (i := 2) hz
          have f3 := frozen_of (i := 3) hz
          have f4 := frozen_of (i := 4) hz
          have u0 := cell_of (i := 0) hz rfl
          have u1 := cell_of (i := 1) hz rfl
          have u2 := cell_of (i := 2) hz rfl
          have u3 := cell_of (i := 3) hz rfl
          have u4 := cell_of (i := 4) hz rfl
          obtain ⟨R, hR⟩ : ∃ R, set5 V wx.heap.size (.int .i64 xf) (.int .i64 xl) (.string ⟨xa.toArray⟩) (.string ⟨xz.toArray⟩) (.int .i64 (xn : Int)) = R := ⟨_, rfl⟩
          have hbR : Below wx.heap.size wx R := by rw [← hR]; exact hbV.trans ((set5_fr V wx.heap.size _ _ _ _ _ (fun k => k = wx.heap.size) rfl).below hbV.size (fun k hk e => by omega))
          have hRa : R.heap[wx.heap.size]? = some (.cells #[.int .i64 xf, .int .i64 xl, .string ⟨xa.toArray⟩, .string ⟨xz.toArray⟩, .int .i64 (xn : Int)] 49 (0, 0)) := by rw [← hR]; exact set5_heap hz _ _ _ _ _
          unfold set5 at hR
          have x0 := cell_of (i := 0) hRa rfl
          have x1 := cell_of (i := 1) hRa rfl
          have x2 := cell_of (i := 2) hRa rfl
          have x3 := cell_of (i := 3) hRa rfl
          have x4 := cell_of (i := 4) hRa rfl
          have HJR := Lib.hid (HJ.out.after hbR)
          have HRa := Lib.hid hRa
          have s0 := cell_of (i := 0) HJR.out.sm rfl
          have s1 := cell_of (i := 1) HJR.out.sm rfl
          have HPl := Lib.hid (plus_any R sl xn hsum)
          clear hz hbV hbR hRa
          go_wp2_with fail
          refine HPl.out.mono ?_
          rintro r w11 ⟨rfl, hb11⟩
          have HJ11 := Lib.hid (HJR.out.after hb11)
          have hR11 := (hb11.block _ (block_lt HRa.out)).trans HRa.out
          have z0 := frozen_of (i := 0) HJ11.out.sm
          have z1 := frozen_of (i := 1) HJ11.out.sm
          have o0 := cell_of (i := 0) HJ11.out.sm rfl
          have o1 := cell_of (i := 1) HJ11.out.sm rfl
          have hj12 := HJ11.out.setSum (sl + xn)
          have hR12 : ((w11.setCell ⟨wz.heap.size, 0, none⟩ (.int .u64 0)).setCell ⟨wz.heap.size, 1, none⟩ (.int .u64 ((sl + xn : Nat) : Int))).heap[wx.heap.size]? = _ := (setCell_other (kind_ne hR11 HJ11.out.sm (by decide)) _).trans ((setCell_other (kind_ne hR11 HJ11.out.sm (by decide)) _).trans hR11)
          rw [Int.natCast_add] at hj12 hR12
          obtain ⟨Wc, hWc⟩ : ∃ W, (w11.setCell ⟨wz.heap.size, 0, none⟩ (.int .u64 0)).setCell ⟨wz.heap.size, 1, none⟩ (.int .u64 ((sl : Int) + (xn : Int))) = W := ⟨_, rfl⟩
          rw [hWc] at hj12 hR12
          have HJ12 := Lib.hid hj12
          have x0 := cell_of (i := 0) hR12 rfl
          have x1 := cell_of (i := 1) hR12 rfl
          have x2 := cell_of (i := 2) hR12 rfl
          have x3 := cell_of (i := 3) hR12 rfl
          have x4 := cell_of (i := 4) hR12 rfl
          have m0 := cell_of (i := 0) hj12.gr rfl
          have m1 := cell_of (i := 1) hj12.gr rfl
          have m2 := cell_of (i := 2) hj12.gr rfl
          have m3 := cell_of (i := 3) hj12.gr rfl
          have m4 := cell_of (i := 4) hj12.gr rfl
          have v0 := frozen_of (i := 0) hj12.gr
          have v1 := frozen_of (i := 1) hj12.gr
          have v2 := frozen_of (i := 2) hj12.gr
          have v3 := frozen_of (i := 3) hj12.gr
          have v4 := frozen_of (i := 4) hj12.gr
          have HJG := Lib.hid (hj12.setGr ⟨xf, xl, xa, xz, (xn : Int)⟩)
          have y4 := cell_of (i := 4) ((hb11.block _ (block_lt HJR.out.gr)).trans HJR.out.gr) rfl
          have y5 := cell_of (i := 4) hR11 rfl
          clear hj12 hR12 hb11 hR11
          by_cases hgn : gn < (xn : Int)
          · have d6 : decide (gn < (xn : Int)) = true := decide_eq_true hgn
            have HGn : Hid (grT (L2.take (k + 1)) = ⟨xf, xl, xa, xz, (xn : Int)⟩) := Lib.hid (by rw [HGs.out]; unfold gr1; rw [if_pos hgn])
            go_wp2_with fail
            go_roundw
            case rel => exact ⟨k + 1, by omega, by go_num, Lib.hid (by rw [HWs.out, HGn.out]; exact HJG.out)⟩
            case measure => simp [intOf]; omega
          · have d6 : decide (gn < (xn : Int)) = false := decide_eq_false hgn
            have HGn : Hid (grT (L2.take (k + 1)) = ⟨gf, gl, ga, gz, gn⟩) := Lib.hid (by rw [HGs.out]; unfold gr1; rw [if_neg hgn])
            go_wp2_with fail
            go_roundw
            case rel => exact ⟨k + 1, by omega, by go_num, Lib.hid (by rw [HWs.out, HGn.out]; exact HJ12.out)⟩
            case measure => simp [intOf]; omega
        · obtain rfl : k = L2.length := by omega
          have d5 : decide ((L2.length : Int) < (L2.length : Int)) = false := by simp
          rw [List.take_length] at HJ
          obtain ⟨sl, hsl⟩ : ∃ s, wT L2 = s := ⟨_, rfl⟩
          obtain ⟨g, hg⟩ : ∃ g, grT L2 = g := ⟨_, rfl⟩
          rw [hsl, hg] at HJ
          have HGg := Lib.hid (And.intro hsl hg)
          clear hsl hg
          obtain ⟨gf, gl, ga, gz, gn⟩ := g
          have s0 := cell_of (i := 0) HJ.out.sm rfl
          have s1 := cell_of (i := 1) HJ.out.sm rfl
          have HAb := Lib.hid (above_any wx sl (pm : Int))
          go_wp2_with fail
          refine HAb.out.mono ?_
          rintro r w12 ⟨rfl, hb12⟩
          have HJ12 := Lib.hid (HJ.out.after hb12)
          clear hb12 s0 s1 HAb
          by_cases hab : pm < sl
          · have d6 : decide ((pm : Int) < (sl : Int)) = true := decide_eq_true (by omega)
            have d6n : decide (pm < sl) = true := decide_eq_true hab
            have r0 := cell_of (i := 0) HJ12.out.hv.res rfl
            have r1 := cell_of (i := 1) HJ12.out.hv.res rfl
            have r2 := cell_of (i := 2) HJ12.out.hv.res rfl
            have r3 := cell_of (i := 3) HJ12.out.hv.res rfl
            have r4 := cell_of (i := 4) HJ12.out.hv.res rfl
            have y0 := frozen_of (i := 0) HJ12.out.hv.res
            have y1 := frozen_of (i := 1) HJ12.out.hv.res
            have y2 := frozen_of (i := 2) HJ12.out.hv.res
            have y3 := frozen_of (i := 3) HJ12.out.hv.res
            have y4 := frozen_of (i := 4) HJ12.out.hv.res
            have m0 := cell_of (i := 0) HJ12.out.gr rfl
            have m1 := cell_of (i := 1) HJ12.out.gr rfl
            have m2 := cell_of (i := 2) HJ12.out.gr rfl
            have m3 := cell_of (i := 3) HJ12.out.gr rfl
            have m4 := cell_of (i := 4) HJ12.out.gr rfl
            go_wp2_with fail
            rw [Exit.noGoto_ret]
            have hq := set5_heap HJ12.out.hv.res (.int .i64 gf) (.int .i64 gl) (.string ⟨ga.toArray⟩) (.string ⟨gz.toArray⟩) (.int .i64 gn)
            refine bodyPost_ret (v := .agg #[.int .i64 gf, .int .i64 gl, .string ⟨ga.toArray⟩, .string ⟨gz.toArray⟩, .int .i64 gn]) (results_table rfl _ _ X0.heap.size _ rfl hq rfl) rfl ⟨⟨gf, gl, ga, gz, gn⟩, rfl, .inl ⟨m, hm1, by omega, HH.out.2, ?_, ?_⟩, ?_⟩
            · rw [HPm.out, HLe.out, HGg.out.1]; exact hab
            · rw [HLe.out]; exact HGg.out.2.symm
            · exact HJ12.out.hv.bel.trans ((set5_fr w12 X0.heap.size _ _ _ _ _ (fun k => k = X0.heap.size) rfl).below HJ12.out.hv.bel.size (fun k hk e => by omega))
          · have d6 : decide ((pm : Int) < (sl : Int)) = false := decide_eq_false (by omega)
            have d6n : decide (pm < sl) = false := decide_eq_false hab
            have hml := HMl.out
            go_wp2_with fail
            go_roundw
            case rel => exact ⟨m + 1, by omega, by omega, by go_num, rfl, Lib.hid ⟨HJ12.out.hv, fun j h1 h2 => by
              by_cases hj : j = m
              · rw [hj, HPm.out, HLe.out, HGg.out.1]; omega
              · exact HH.out.2 j h1 (by omega)⟩⟩
            case measure => simp [intOf]; omega
    · obtain rfl : m = 6 := by omega
      have d1 : decide ((6 : Int) < 6) = false := by decide
      have r0 := cell_of (i := 0) HH.out.1.res rfl
      have r1 := cell_of (i := 1) HH.out.1.res rfl
      have r2 := cell_of (i := 2) HH.out.1.res rfl
      have r3 := cell_of (i := 3) HH.out.1.res rfl
      have r4 := cell_of (i := 4) HH.out.1.res rfl
      have y0 := frozen_of (i := 0) HH.out.1.res
      have y1 := frozen_of (i := 1) HH.out.1.res
      have y2 := frozen_of (i := 2) HH.out.1.res
      have y3 := frozen_of (i := 3) HH.out.1.res
      have y4 := frozen_of (i := 4) HH.out.1.res
      go_wp2_with fail
      rw [Exit.noGoto_ret]
      have hq := set5_heap HH.out.1.res (.int .i64 0) (.int .i64 0) (.string ⟨#[]⟩) (.string ⟨#[]⟩) (.int .i64 0)
      refine bodyPost_ret (v := .agg #[.int .i64 0, .int .i64 0, .string ⟨#[]⟩, .string ⟨#[]⟩, .int .i64 0]) (results_table rfl _ _ X0.heap.size _ rfl hq rfl) rfl ⟨zeT, rfl, .inr ⟨fun j h1 h2 => HH.out.2 j h1 (by omega), rfl⟩, ?_⟩
      exact HH.out.1.bel.trans ((set5_fr wz X0.heap.size _ _ _ _ _ (fun k => k = X0.heap.size) rfl).below HH.out.1.bel.size (fun k hk e => by omega))
end Go.Proofs.Yteclnnjijfbfoaa

/-
  The walk over compact.Pick, of any tables: where level 0 has enough.
-/
namespace Go.Proofs.Yteclnnjijfbfoaa
open Go.RowKit

/-- What Pick goes on with. -/
structure PkN (w : World) (g0 g1 g2 : Nat) (tv : Value) (vs vn vm z b t : Int) (wr : World) : Prop where
  box : wr.heap[g0]? = some (.cells #[tv, .int .u64 vs, .int .i64 vn, .int .i64 vm] 44 (0, 0))
  sh : wr.heap[g1]? = some (.cells #[.int .i64 z, .int .i64 b, .int .i64 t] 40 (0, 0))
  res : wr.heap[g2]? = some (.cells #[.int .i64 0, .slice none 0 0, .bool false] 58 (0, 0))
  bel : Below w.heap.size w wr
  b2 : w.heap.size ≤ g2
theorem PkN.after {w wr w' : World} {g0 g1 g2 : Nat} {tv : Value} {vs vn vm z b t : Int} (h : PkN w g0 g1 g2 tv vs vn vm z b t wr) (hb : Below wr.heap.size wr w') : PkN w g0 g1 g2 tv vs vn vm z b t w' :=
  ⟨(hb.block _ (block_lt h.box)).trans h.box, (hb.block _ (block_lt h.sh)).trans h.sh, (hb.block _ (block_lt h.res)).trans h.res, h.bel.trans (hb.mono h.bel.size), h.b2⟩

set_option maxRecDepth 100000 in
set_option maxHeartbeats 4000000 in
theorem pick_zero (w : World) (tv : Value) (ts : List Tab) (vs vn vm z b sz : Int) (t0 : Tab) (ht : TsM w (fun k => k < w.heap.size) tv ts) (hl : ts.length ≤ 65536) (hf : FitT ts) (hok : okS z b sz = true) (hz : z ≤ ((lvT 0 ts).length : Int)) (h0 : (lvT 0 ts)[0]? = some t0) :
    Calls Try.prog 16 #[.agg #[tv, .int .u64 vs, .int .i64 vn, .int .i64 vm], .agg #[.int .i64 z, .int .i64 b, .int .i64 sz]] w fun x w' => ∃ (U : List Tab) (ip : Option Addr) (ic : Nat) (bt : Bool), U = lvT 0 ts ++ ovT (0 + 1) (stS t0 (lvT 0 ts)) ts ∧ x = .returned (.tuple #[.agg #[.int .i64 0, .slice ip U.length ic, .bool bt], .bool true]) ∧
      (bt = true ↔ ∀ j : Int, 0 + 2 ≤ j → j ≤ 6 → ovT j (stS t0 U) ts = []) ∧ (∃ b0, w'.ownsRow b0 3 1 (.slice ip U.length ic) U.length (fileV U)) ∧ Below w.heap.size w w' := by
  obtain ⟨p, cap, rfl, _⟩ := Cl.form ht
  have hz0 := heap_alloc_new w (.cells #[.slice p ts.length cap, .int .u64 vs, .int .i64 vn, .int .i64 vm] 44)
  obtain ⟨X0, hX0⟩ : ∃ X, w.alloc (.cells #[.slice p ts.length cap, .int .u64 vs, .int .i64 vn, .int .i64 vm] 44) = X := ⟨_, rfl⟩
  have hbX0 : Below w.heap.size w X0 := by rw [← hX0]; exact belowA _ _
  rw [hX0] at hz0
  have hz1 := heap_alloc_new X0 (.cells #[.int .i64 z, .int .i64 b, .int .i64 sz] 40)
  obtain ⟨X1, hX1⟩ : ∃ X, X0.alloc (.cells #[.int .i64 z, .int .i64 b, .int .i64 sz] 40) = X := ⟨_, rfl⟩
  have hbX1 : Below X0.heap.size X0 X1 := by rw [← hX1]; exact belowA _ _
  rw [hX1] at hz1
  have hz2 := heap_alloc_new X1 (.cells #[.int .i64 0, .slice none 0 0, .bool false] 58)
  obtain ⟨X2, hX2⟩ : ∃ X, X1.alloc (.cells #[.int .i64 0, .slice none 0 0, .bool false] 58) = X := ⟨_, rfl⟩
  have hbX2 : Below X1.heap.size X1 X2 := by rw [← hX2]; exact belowA _ _
  rw [hX2] at hz2
  have hs0 : w.heap.size ≤ X1.heap.size := Nat.le_trans hbX0.size hbX1.size
  have HM : Hid (PkN w w.heap.size X0.heap.size X1.heap.size (.slice p ts.length cap) vs vn vm z b sz X2) := Lib.hid ⟨(hbX2.block _ (Nat.lt_of_lt_of_le (block_lt hz0) hbX1.size)).trans ((hbX1.block _ (block_lt hz0)).trans hz0), (hbX2.block _ (block_lt hz1)).trans hz1, hz2, (hbX0.trans (hbX1.mono hbX0.size)).trans (hbX2.mono hs0), hs0⟩
  have HT := Lib.hid ht
  have s0 := cell_of (i := 0) HM.out.sh rfl
  have s1 := cell_of (i := 1) HM.out.sh rfl
  have s2 := cell_of (i := 2) HM.out.sh rfl
  have HCk := Lib.hid (check_any X2 z b sz)
  rw [if_pos hok] at HCk
  have HFit := Lib.hid hf
  have HPos := Lib.hid hz
  clear hz0 hz1 hz2 hbX0 hbX1 hbX2 ht hf hz
  go_enter Try.func16, Try.ntmps16
  go_wp2_with fail
  refine HCk.out.mono ?_
  rintro x w3 ⟨rfl, hb3⟩
  have HM3 := Lib.hid (HM.out.after hb3)
  have b0 := cell_of (i := 0) HM3.out.box rfl
  have b1 := cell_of (i := 1) HM3.out.box rfl
  have b2 := cell_of (i := 2) HM3.out.box rfl
  have b3 := cell_of (i := 3) HM3.out.box rfl
  have HAt := Lib.hid (at_any w3 (fun k => k < w.heap.size) (.slice p ts.length cap) ts vs vn vm 0 (HT.out.below HM3.out.bel) (by omega))
  have hLl := lvT_len 0 ts
  generalize hLe : lvT 0 ts = L at *
  have HLe := Lib.hid hLe
  clear hLe
  clear hb3 s0 s1 s2 HCk
  go_wp2_with fail
  refine HAt.out.mono ?_
  rintro x w4 ⟨q, c, rfl, hq, hb4⟩
  have HM4 := Lib.hid (HM3.out.after hb4)
  have s0 := cell_of (i := 0) HM4.out.sh rfl
  have c0 := cell_of (i := 0) HM4.out.box rfl
  have c1 := cell_of (i := 1) HM4.out.box rfl
  have c2 := cell_of (i := 2) HM4.out.box rfl
  have c3 := cell_of (i := 3) HM4.out.box rfl
  have hw3 := HM3.out.bel.size
  have HJb := Lib.hid (job_any w4 w3.heap.size (.slice p ts.length cap) vs vn vm 0 ts L t0 q c ((HT.out.below HM4.out.bel).mono fun k _ hk => by omega) hq hb4.size hl (by omega) h0 HFit.out (by omega) (by omega))
  have HB4s := Lib.hid hb4.size
  have d5 : decide (z ≤ (L.length : Int)) = true := decide_eq_true HPos.out
  have HX1lt := Lib.hid (block_lt HM3.out.res)
  clear hb4 hq b0 b1 b2 b3 HAt
  go_wp2_with fail
  refine HJb.out.mono ?_
  rintro x w5 ⟨U, ip, ic, bt, hU, rfl, hbt, hi, hb5⟩
  have HU := Lib.hid (And.intro hU hbt)
  clear hU hbt
  have hr5 := (hb5.block _ HX1lt.out).trans HM4.out.res
  have HR5 := Lib.hid hr5
  have r0 := cell_of (i := 0) hr5 rfl
  have r1 := cell_of (i := 1) hr5 rfl
  have r2 := cell_of (i := 2) hr5 rfl
  have y0 := frozen_of (i := 0) hr5
  have y1 := frozen_of (i := 1) hr5
  have y2 := frozen_of (i := 2) hr5
  have HI := Lib.hid hi
  have HB5 : Hid (Below w.heap.size w w5) := Lib.hid (HM4.out.bel.trans (hb5.mono hw3))
  clear hi hb5 hr5 s0 c0 c1 c2 c3 HJb
  go_wp2_with fail
  have hq := set3_heap HR5.out (.int .i64 0) (.slice ip U.length ic) (.bool bt)
  have hf := set3_fr w5 X1.heap.size (.int .i64 0) (.slice ip U.length ic) (.bool bt) (fun k => k = X1.heap.size) rfl
  refine bodyPost_ret (v := .tuple #[.agg #[.int .i64 0, .slice ip U.length ic, .bool bt], .bool true]) (results_job2 rfl _ _ X1.heap.size _ _ rfl rfl hq rfl) rfl ⟨U, ip, ic, bt, by rw [HLe.out]; exact HU.out.1, rfl, HU.out.2, ⟨_, row_keep HI.out fun j hj => hf.block j (row_lt HI.out j hj) (fun e => ?_)⟩, ?_⟩
  · obtain ⟨cur, hc⟩ := row_heap HI.out hj
    subst e
    exact kind_ne hc HR5.out (by decide) rfl
  · exact HB5.out.trans (hf.below HB5.out.size (fun k hk e => by omega))

end Go.Proofs.Yteclnnjijfbfoaa

/-
  The walk over compact.Pick, of any tables: where level 0 has not enough.
-/
namespace Go.Proofs.Yteclnnjijfbfoaa
open Go.RowKit

theorem grT_from : ∀ (l : List Tab) (g : Tab), (l.foldl gr1 g = g ∧ ∀ t ∈ l, t.size ≤ g.size) ∨ l.foldl gr1 g ∈ l
  | [], g => .inl ⟨rfl, fun t h => by simp at h⟩
  | x :: r, g => by
    rw [List.foldl_cons]
    by_cases h : g.size < x.size
    · rw [show gr1 g x = x from if_pos h]
      rcases grT_from r x with ⟨h1, _⟩ | h1
      · rw [h1]; exact .inr List.mem_cons_self
      · exact .inr (List.mem_cons_of_mem _ h1)
    · rw [show gr1 g x = g from if_neg h]
      rcases grT_from r g with ⟨h1, h2⟩ | h1
      · refine .inl ⟨h1, fun t ht => ?_⟩
        rcases List.mem_cons.1 ht with rfl | ht
        · omega
        · exact h2 t ht
      · exact .inr (List.mem_cons_of_mem _ h1)
theorem wT_zero : ∀ (l : List Tab), (∀ t ∈ l, t.size ≤ 0) → wT l = 0
  | [], _ => rfl
  | x :: r, h => by
    have h1 := wT_zero r (fun t ht => h t (List.mem_cons_of_mem _ ht))
    have h2 := h x List.mem_cons_self
    unfold wT at *
    simp only [List.map_cons, List.sum_cons]
    omega
theorem grT_mem {l : List Tab} (h : 0 < wT l) : grT l ∈ l := by
  rcases grT_from l zeT with ⟨_, h2⟩ | h1
  · have := wT_zero l (fun t ht => h2 t ht)
    omega
  · exact h1
theorem row_one (w : World) (t : Tab) : (w.alloc (.cells #[.int .i64 t.file, .int .i64 t.level, .string ⟨t.first.toArray⟩, .string ⟨t.last.toArray⟩, .int .i64 t.size] 49)).ownsRow w.heap.size 49 5 (.slice (some ⟨w.heap.size, 0, none⟩) 1 1) 1 (cellsTs [t]) :=
  ⟨rfl, .inr ⟨w.heap.size, 1, _, rfl, Nat.le_refl _, heap_alloc_new w _, Nat.le_refl _, by unfold maxLen; omega, rfl, rfl⟩⟩

set_option maxRecDepth 100000 in
set_option maxHeartbeats 4000000 in
theorem pick_below (w : World) (tv : Value) (ts : List Tab) (vs vn vm z sz : Int) (b : Nat) (ht : TsM w (fun k => k < w.heap.size) tv ts) (hl : ts.length ≤ 65536) (hf : FitT ts) (hsz : ∀ t ∈ ts, 0 ≤ t.size) (hw : wT ts < 4611686018427387904) (hb30 : b ≤ 1073741824) (hok : okS z (b : Int) sz = true) (hz : ((lvT 0 ts).length : Int) < z) :
    Calls Try.prog 16 #[.agg #[tv, .int .u64 vs, .int .i64 vn, .int .i64 vm], .agg #[.int .i64 z, .int .i64 (b : Int), .int .i64 sz]] w fun x w' => ∃ t : Tab, HvP b ts t ∧ Below w.heap.size w w' ∧
      ((t = zeT ∧ x = .returned (.tuple #[.agg #[.int .i64 0, .slice none 0 0, .bool false], .bool false])) ∨
       (1 ≤ t.level ∧ t.level ≤ 5 ∧ ∃ (U : List Tab) (ip : Option Addr) (ic : Nat) (bt : Bool), U = [t] ++ ovT (t.level + 1) (stS t [t]) ts ∧ x = .returned (.tuple #[.agg #[.int .i64 t.level, .slice ip U.length ic, .bool bt], .bool true]) ∧
        (bt = true ↔ ∀ j : Int, t.level + 2 ≤ j → j ≤ 6 → ovT j (stS t U) ts = []) ∧ (∃ b0, w'.ownsRow b0 3 1 (.slice ip U.length ic) U.length (fileV U)))) := by
  obtain ⟨p, cap, rfl, _⟩ := Cl.form ht
  have hz0 := heap_alloc_new w (.cells #[.slice p ts.length cap, .int .u64 vs, .int .i64 vn, .int .i64 vm] 44)
  obtain ⟨X0, hX0⟩ : ∃ X, w.alloc (.cells #[.slice p ts.length cap, .int .u64 vs, .int .i64 vn, .int .i64 vm] 44) = X := ⟨_, rfl⟩
  have hbX0 : Below w.heap.size w X0 := by rw [← hX0]; exact belowA _ _
  rw [hX0] at hz0
  have hz1 := heap_alloc_new X0 (.cells #[.int .i64 z, .int .i64 (b : Int), .int .i64 sz] 40)
  obtain ⟨X1, hX1⟩ : ∃ X, X0.alloc (.cells #[.int .i64 z, .int .i64 (b : Int), .int .i64 sz] 40) = X := ⟨_, rfl⟩
  have hbX1 : Below X0.heap.size X0 X1 := by rw [← hX1]; exact belowA _ _
  rw [hX1] at hz1
  have hz2 := heap_alloc_new X1 (.cells #[.int .i64 0, .slice none 0 0, .bool false] 58)
  obtain ⟨X2, hX2⟩ : ∃ X, X1.alloc (.cells #[.int .i64 0, .slice none 0 0, .bool false] 58) = X := ⟨_, rfl⟩
  have hbX2 : Below X1.heap.size X1 X2 := by rw [← hX2]; exact belowA _ _
  rw [hX2] at hz2
  have hs0 : w.heap.size ≤ X1.heap.size := Nat.le_trans hbX0.size hbX1.size
  have HM : Hid (PkN w w.heap.size X0.heap.size X1.heap.size (.slice p ts.length cap) vs vn vm z b sz X2) := Lib.hid ⟨(hbX2.block _ (Nat.lt_of_lt_of_le (block_lt hz0) hbX1.size)).trans ((hbX1.block _ (block_lt hz0)).trans hz0), (hbX2.block _ (block_lt hz1)).trans hz1, hz2, (hbX0.trans (hbX1.mono hbX0.size)).trans (hbX2.mono hs0), hs0⟩
  have HT := Lib.hid ht
  have s0 := cell_of (i := 0) HM.out.sh rfl
  have s1 := cell_of (i := 1) HM.out.sh rfl
  have s2 := cell_of (i := 2) HM.out.sh rfl
  have HCk := Lib.hid (check_any X2 z b sz)
  rw [if_pos hok] at HCk
  have HFit := Lib.hid hf
  have HPos := Lib.hid hz
  have HTot := Lib.hid (And.intro hsz (And.intro hw hb30))
  clear hz0 hz1 hz2 hbX0 hbX1 hbX2 ht hf hz hsz hw hb30
  go_enter Try.func16, Try.ntmps16
  go_wp2_with fail
  refine HCk.out.mono ?_
  rintro x w3 ⟨rfl, hb3⟩
  have HM3 := Lib.hid (HM.out.after hb3)
  have b0 := cell_of (i := 0) HM3.out.box rfl
  have b1 := cell_of (i := 1) HM3.out.box rfl
  have b2 := cell_of (i := 2) HM3.out.box rfl
  have b3 := cell_of (i := 3) HM3.out.box rfl
  have HAt := Lib.hid (at_any w3 (fun k => k < w.heap.size) (.slice p ts.length cap) ts vs vn vm 0 (HT.out.below HM3.out.bel) (by omega))
  have hLl := lvT_len 0 ts
  generalize lvT 0 ts = L at *
  clear hb3 s0 s1 s2 HCk
  go_wp2_with fail
  refine HAt.out.mono ?_
  rintro x w4 ⟨q, c, rfl, _, hb4⟩
  have HM4 := Lib.hid (HM3.out.after hb4)
  have s0 := cell_of (i := 0) HM4.out.sh rfl
  have c0 := cell_of (i := 0) HM4.out.box rfl
  have c1 := cell_of (i := 1) HM4.out.box rfl
  have c2 := cell_of (i := 2) HM4.out.box rfl
  have c3 := cell_of (i := 3) HM4.out.box rfl
  have s1 := cell_of (i := 1) HM4.out.sh rfl
  have d5 : decide (z ≤ (L.length : Int)) = false := decide_eq_false (by have := HPos.out; omega)
  have HHv := Lib.hid (heavy_any w4 (fun k => k < w.heap.size) (.slice p ts.length cap) ts vs vn vm b (HT.out.below HM4.out.bel) hl HTot.out.1 HTot.out.2.1 HTot.out.2.2)
  clear hb4 b0 b1 b2 b3 HAt
  go_wp2_with fail
  refine HHv.out.mono ?_
  rintro x w5 ⟨t, rfl, hP, hb5⟩
  have HM5 := Lib.hid (HM4.out.after hb5)
  have HP := Lib.hid hP
  have hcase : t = zeT ∨ ((1 : Int) ≤ t.level ∧ t.level ≤ 5) := by
    rcases hP with ⟨m, h1, h2, _, h4, rfl⟩ | ⟨_, h⟩
    · right
      have hm := (List.mem_filter.1 (grT_mem (l := lvT (m : Int) ts) (by omega))).2
      rw [beq_iff_eq] at hm
      rw [hm]
      omega
    · exact .inl h
  clear hP
  rcases hcase with rfl | ⟨ht1, ht5⟩
  · simp only [zeT]
    have hz := heap_alloc_new w5 (.cells #[.int .i64 0, .int .i64 0, .string ⟨#[]⟩, .string ⟨#[]⟩, .int .i64 0] 49)
    obtain ⟨V, hV⟩ : ∃ Y, w5.alloc (.cells #[.int .i64 0, .int .i64 0, .string ⟨#[]⟩, .string ⟨#[]⟩, .int .i64 0] 49) = Y := ⟨_, rfl⟩
    have hbV : Below w5.heap.size w5 V := by rw [← hV]; exact belowA _ _
    rw [hV] at hz
    have f0 := frozen_of (i := 0) hz
    have f1 := frozen_of (i := 1) hz
    have f2 := frozen_of (i := 2) hz
    have f3 := frozen_of (i := 3) hz
    have f4 := frozen_of (i := 4) hz
    have u0 := cell_of (i := 0) hz rfl
    have u1 := cell_of (i := 1) hz rfl
    have u2 := cell_of (i := 2) hz rfl
    have u3 := cell_of (i := 3) hz rfl
    have u4 := cell_of (i := 4) hz rfl
    obtain ⟨X, hX⟩ : ∃ X, set5 V w5.heap.size (.int .i64 0) (.int .i64 0) (.string ⟨#[]⟩) (.string ⟨#[]⟩) (.int .i64 0) = X := ⟨_, rfl⟩
    have hbX : Below w5.heap.size w5 X := by rw [← hX]; exact hbV.trans ((set5_fr V w5.heap.size _ _ _ _ _ (fun k => k = w5.heap.size) rfl).below hbV.size (fun k hk e => by omega))
    have hXa : X.heap[w5.heap.size]? = some (.cells #[(.int .i64 0), (.int .i64 0), (.string ⟨#[]⟩), (.string ⟨#[]⟩), (.int .i64 0)] 49 (0, 0)) := by rw [← hX]; exact set5_heap hz _ _ _ _ _
    unfold set5 at hX
    have x0 := cell_of (i := 0) hXa rfl
    have x1 := cell_of (i := 1) hXa rfl
    have x2 := cell_of (i := 2) hXa rfl
    have x3 := cell_of (i := 3) hXa rfl
    have x4 := cell_of (i := 4) hXa rfl
    have HMX := Lib.hid (HM5.out.after hbX)
    have r0 := cell_of (i := 0) HMX.out.res rfl
    have r1 := cell_of (i := 1) HMX.out.res rfl
    have r2 := cell_of (i := 2) HMX.out.res rfl
    have y0 := frozen_of (i := 0) HMX.out.res
    have y1 := frozen_of (i := 1) HMX.out.res
    have y2 := frozen_of (i := 2) HMX.out.res
    clear hb5 hz hbV hbX hXa s0 s1 HHv
    go_wp2_with fail
    have hq := set3_heap HMX.out.res (.int .i64 0) (.slice none 0 0) (.bool false)
    have hf := set3_fr X X1.heap.size (.int .i64 0) (.slice none 0 0) (.bool false) (fun k => k = X1.heap.size) rfl
    refine bodyPost_ret (v := .tuple #[.agg #[.int .i64 0, .slice none 0 0, .bool false], .bool false]) (results_job2 rfl _ _ X1.heap.size _ _ rfl rfl hq rfl) rfl ⟨zeT, HP.out, ?_, .inl ⟨rfl, rfl⟩⟩
    exact HMX.out.bel.trans (hf.below HMX.out.bel.size (fun k hk e => by omega))
  · obtain ⟨xf, xl, xa, xz, xs⟩ := t
    dsimp only at ht1 ht5
    have hz := heap_alloc_new w5 (.cells #[.int .i64 0, .int .i64 0, .string ⟨#[]⟩, .string ⟨#[]⟩, .int .i64 0] 49)
    obtain ⟨V, hV⟩ : ∃ Y, w5.alloc (.cells #[.int .i64 0, .int .i64 0, .string ⟨#[]⟩, .string ⟨#[]⟩, .int .i64 0] 49) = Y := ⟨_, rfl⟩
    have hbV : Below w5.heap.size w5 V := by rw [← hV]; exact belowA _ _
    rw [hV] at hz
    have f0 := frozen_of (i := 0) hz
    have f1 := frozen_of (i := 1) hz
    have f2 := frozen_of (i := 2) hz
    have f3 := frozen_of (i := 3) hz
    have f4 := frozen_of (i := 4) hz
    have u0 := cell_of (i := 0) hz rfl
    have u1 := cell_of (i := 1) hz rfl
    have u2 := cell_of (i := 2) hz rfl
    have u3 := cell_of (i := 3) hz rfl
    have u4 := cell_of (i := 4) hz rfl
    obtain ⟨X, hX⟩ : ∃ X, set5 V w5.heap.size (.int .i64 xf) (.int .i64 xl) (.string ⟨xa.toArray⟩) (.string ⟨xz.toArray⟩) (.int .i64 xs) = X := ⟨_, rfl⟩
    have hbX : Below w5.heap.size w5 X := by rw [← hX]; exact hbV.trans ((set5_fr V w5.heap.size _ _ _ _ _ (fun k => k = w5.heap.size) rfl).below hbV.size (fun k hk e => by omega))
    have hXa : X.heap[w5.heap.size]? = some (.cells #[(.int .i64 xf), (.int .i64 xl), (.string ⟨xa.toArray⟩), (.string ⟨xz.toArray⟩), (.int .i64 xs)] 49 (0, 0)) := by rw [← hX]; exact set5_heap hz _ _ _ _ _
    unfold set5 at hX
    have x0 := cell_of (i := 0) hXa rfl
    have x1 := cell_of (i := 1) hXa rfl
    have x2 := cell_of (i := 2) hXa rfl
    have x3 := cell_of (i := 3) hXa rfl
    have x4 := cell_of (i := 4) hXa rfl
    have HMX := Lib.hid (HM5.out.after hbX)
    have hlz : (xl == 0) = false := by rw [beq_eq_false_iff_ne]; omega
    have hXsz : w.heap.size ≤ X.heap.size := HMX.out.bel.size
    have hrow := row_one X ⟨xf, xl, xa, xz, xs⟩
    dsimp only at hrow
    have hbA : Below X.heap.size X (X.alloc (.cells #[.int .i64 xf, .int .i64 xl, .string ⟨xa.toArray⟩, .string ⟨xz.toArray⟩, .int .i64 xs] 49)) := belowA _ _
    have HMA := Lib.hid (HMX.out.after hbA)
    have HJb := Lib.hid (job_any (X.alloc (.cells #[.int .i64 xf, .int .i64 xl, .string ⟨xa.toArray⟩, .string ⟨xz.toArray⟩, .int .i64 xs] 49)) X.heap.size (.slice p ts.length cap) vs vn vm xl ts [⟨xf, xl, xa, xz, xs⟩] ⟨xf, xl, xa, xz, xs⟩ (some ⟨X.heap.size, 0, none⟩) 1 ((HT.out.below HMA.out.bel).mono fun k _ hk => by omega) hrow hbA.size hl (by simp) rfl HFit.out (by omega) ht5)
    have HX1lt := Lib.hid (block_lt HMX.out.res)
    have d0 := cell_of (i := 0) HMX.out.box rfl
    have d1 := cell_of (i := 1) HMX.out.box rfl
    have d2 := cell_of (i := 2) HMX.out.box rfl
    have d3 := cell_of (i := 3) HMX.out.box rfl
    have a0 := cell_of (i := 0) HMA.out.box rfl
    have a1 := cell_of (i := 1) HMA.out.box rfl
    have a2 := cell_of (i := 2) HMA.out.box rfl
    have a3 := cell_of (i := 3) HMA.out.box rfl
    clear hb5 hz hbV hbX hXa s0 s1 c0 c1 c2 c3 HHv hrow hbA
    go_wp2_with fail
    refine HJb.out.mono ?_
    rintro x w8 ⟨U, ip, ic, bt, hU, rfl, hbt, hi, hb8⟩
    have HU := Lib.hid (And.intro hU hbt)
    have hr8 := (hb8.block _ HX1lt.out).trans HMA.out.res
    have HR8 := Lib.hid hr8
    have r0 := cell_of (i := 0) hr8 rfl
    have r1 := cell_of (i := 1) hr8 rfl
    have r2 := cell_of (i := 2) hr8 rfl
    have y0 := frozen_of (i := 0) hr8
    have y1 := frozen_of (i := 1) hr8
    have y2 := frozen_of (i := 2) hr8
    have HI := Lib.hid hi
    have HB8 : Hid (Below w.heap.size w w8) := Lib.hid (HMA.out.bel.trans (hb8.mono hXsz))
    clear hU hbt hi hb8 hr8 a0 a1 a2 a3 d0 d1 d2 d3 HJb
    go_wp2_with fail
    have hq := set3_heap HR8.out (.int .i64 xl) (.slice ip U.length ic) (.bool bt)
    have hfr := set3_fr w8 X1.heap.size (.int .i64 xl) (.slice ip U.length ic) (.bool bt) (fun k => k = X1.heap.size) rfl
    refine bodyPost_ret (v := .tuple #[.agg #[.int .i64 xl, .slice ip U.length ic, .bool bt], .bool true]) (results_job2 rfl _ _ X1.heap.size _ _ rfl rfl hq rfl) rfl ⟨⟨xf, xl, xa, xz, xs⟩, HP.out, ?_, .inr ⟨ht1, ht5, U, ip, ic, bt, HU.out.1, rfl, HU.out.2, ⟨_, row_keep HI.out fun j hj => hfr.block j (row_lt HI.out j hj) (fun e => ?_)⟩⟩⟩
    · exact HB8.out.trans (hfr.below HB8.out.size (fun k hk e => by omega))
    · obtain ⟨cur, hc⟩ := row_heap HI.out hj
      subst e
      exact kind_ne hc HR8.out (by decide) rfl
end Go.Proofs.Yteclnnjijfbfoaa

/-
  The walk over glacierlaw9.table: a table told of versions.
-/
namespace Go.Proofs.Yteclnnjijfbfoaa
open Go.RowKit

/-- What versions weigh. -/
def wE : List Ent → Nat
  | [] => 0
  | e :: r => e.key.length + e.val.length + 16 + wE r
theorem wE_snoc : ∀ (l : List Ent) (k : Nat) (h : k < l.length), wE (l.take (k + 1)) = wE (l.take k) + (l[k].key.length + l[k].val.length + 16)
  | [], k, h => by simp at h
  | e :: r, 0, _ => by simp [wE]
  | e :: r, k + 1, h => by
    have ih := wE_snoc r k (by simpa using h)
    simp only [List.take_succ_cons, wE, List.getElem_cons_succ]
    omega
theorem wE_take : ∀ (l : List Ent) (k : Nat), wE (l.take k) ≤ wE l
  | [], k => by simp
  | e :: r, 0 => by simp [wE]
  | e :: r, k + 1 => by
    have ih := wE_take r k
    simp only [List.take_succ_cons, wE]
    omega

set_option maxRecDepth 100000 in
set_option maxHeartbeats 4000000 in
theorem ltable_any (w : World) (F : Nat → Prop) (v : Value) (l : List Ent) (f lv : Int) (h : En w F v l) (hf : ∀ e ∈ l, FitE e) (hn : 0 < l.length) (hl : l.length ≤ 1048576) (hwt : wE l < 4611686018427387904) :
    Calls Try.prog 14 #[.int .i64 f, .int .i64 lv, v] w fun x w' => x = .returned (.agg #[.int .i64 f, .int .i64 lv, .string ⟨(l[0]'hn).key.toArray⟩, .string ⟨(l[l.length - 1]'(by omega)).key.toArray⟩, .int .i64 (wE l : Int)]) ∧ Below w.heap.size w w' := by
  obtain ⟨p, cap, rfl, _⟩ := h.form
  have HE := Lib.hid h
  have HF := Lib.hid hf
  have hz := heap_alloc_new w (.cells #[.int .i64 0, .int .i64 0, .string ⟨#[]⟩, .string ⟨#[]⟩, .int .i64 0] 49)
  obtain ⟨X, hX⟩ : ∃ X, w.alloc (.cells #[.int .i64 0, .int .i64 0, .string ⟨#[]⟩, .string ⟨#[]⟩, .int .i64 0] 49) = X := ⟨_, rfl⟩
  have hbX : Below w.heap.size w X := by rw [← hX]; exact belowA _ _
  rw [hX] at hz
  have HZ := Lib.hid hz
  have HB := Lib.hid hbX
  clear h hf hz hbX
  go_enter Try.func14, Try.ntmps14
  go_wp2_with fail
  go_loopw [7, 8] (fun nv iv wr => ∃ k : Nat, k ≤ l.length ∧ iv = .int .i64 (k : Int) ∧ nv = .int .i64 (wE (l.take k) : Int) ∧ Hid (wr.heap[w.heap.size]? = some (.cells #[.int .i64 0, .int .i64 0, .string ⟨#[]⟩, .string ⟨#[]⟩, .int .i64 0] 49 (0, 0)) ∧ Below w.heap.size w wr)) (fun _ iv _ => l.length - (intOf iv).toNat)
  case atStart => exact ⟨0, by omega, rfl, rfl, Lib.hid ⟨HZ.out, HB.out⟩⟩
  case round =>
    obtain ⟨k, hk, rfl, rfl, HR⟩ := hrel
    generalize wr = wz at *
    by_cases hlt : k < l.length
    · have d5 : decide ((k : Int) < (l.length : Int)) = true := decide_eq_true (by omega)
      obtain ⟨b1, off1, q1, c1, rfl, hbl, _, e0, e1, e2, e3, hv⟩ := (HE.out.below HR.out.2).at_ (List.getElem?_eq_getElem hlt)
      have hws := wE_snoc l k hlt
      have hwk := wE_take l (k + 1)
      have HSz := Lib.hid (size_any wz l[k] q1 c1 (HF.out _ (List.getElem_mem hlt)))
      obtain ⟨x, hx⟩ : ∃ x, l[k] = x := ⟨_, rfl⟩
      rw [hx] at e1 e2 e3 hv HSz hws
      clear hx e0
      have hwsm : IntKind.i64.wrap ((wE (l.take k) : Int) + ((x.key.length + x.val.length + 16 : Nat) : Int)) = (wE (l.take (k + 1)) : Int) := by rw [IntWalk.i64_in _ (by omega)]; omega
      have hwk1 : IntKind.i64.wrap ((k : Int) + 1) = (k : Int) + 1 := IntWalk.i64_in _ (by omega)
      obtain ⟨sn, hsn⟩ : ∃ s, x.key.length + x.val.length + 16 = s := ⟨_, rfl⟩
      rw [hsn] at HSz hwsm
      have HWm := Lib.hid hwsm
      clear hws hwk hsn hwsm
      generalize wE (l.take k) = sa at *
      generalize hsb : wE (l.take (k + 1)) = sb at *
      have HSb := Lib.hid hsb
      clear hsb
      have hwm := HWm.out
      go_wp2_with fail
      refine HSz.out.mono ?_
      rintro r w3 ⟨rfl, hb3⟩
      have HR3 := Lib.hid (And.intro ((hb3.block _ (block_lt HR.out.1)).trans HR.out.1) (HR.out.2.trans (hb3.mono HR.out.2.size)))
      clear hb3
      go_wp2_with fail
      go_roundw
      case rel => exact ⟨k + 1, by omega, by go_num, by rw [HSb.out], HR3⟩
      case measure => simp [intOf]; omega
    · obtain rfl : k = l.length := by omega
      have d5 : decide ((l.length : Int) < (l.length : Int)) = false := by simp
      rw [List.take_length]
      obtain ⟨b1, off1, q1, c1, rfl, hbl, _, _, e0, _, _, _⟩ := (HE.out.below HR.out.2).at_ (k := 0) (List.getElem?_eq_getElem hn)
      obtain ⟨b2, off2, q2, c2, hp2, hb2, _, _, e1, _, _, _⟩ := (HE.out.below HR.out.2).at_ (k := l.length - 1) (List.getElem?_eq_getElem (by omega))
      obtain ⟨rfl, rfl⟩ : b1 = b2 ∧ off1 = off2 := by simpa using hp2
      rw [Nat.zero_mul, Nat.add_zero] at e0
      have hw1 : IntKind.i64.wrap ((l.length : Int) - 1) = (l.length : Int) - 1 := IntWalk.i64_in _ (by omega)
      have h1 : (0 : Int) ≤ (l.length : Int) - 1 := by omega
      have h2 : ((l.length : Int) - 1).toNat = l.length - 1 := by omega
      have h3 : (l.length : Int) - 1 < (l.length : Int) := by omega
      have h4 : (0 : Int) < (l.length : Int) := by omega
      have f0 := frozen_of (i := 0) HR.out.1
      have f1 := frozen_of (i := 1) HR.out.1
      have f2 := frozen_of (i := 2) HR.out.1
      have f3 := frozen_of (i := 3) HR.out.1
      have f4 := frozen_of (i := 4) HR.out.1
      have u0 := cell_of (i := 0) HR.out.1 rfl
      have u1 := cell_of (i := 1) HR.out.1 rfl
      have u2 := cell_of (i := 2) HR.out.1 rfl
      have u3 := cell_of (i := 3) HR.out.1 rfl
      have u4 := cell_of (i := 4) HR.out.1 rfl
      clear hp2 hwt
      generalize hsw : wE l = sw at *
      have HSw := Lib.hid hsw
      clear hsw
      go_wp2_with fail
      refine wp_region_quiet_tail 15 (by kernel_rfl) (by kernel_rfl) ?_
      simp only [List.take_succ_cons, List.take_zero, List.drop_succ_cons, List.drop_zero]
      repeat (go_big_quiet_step (fail))
      refine wpQuiet_nil ?_
      go_wp2_with fail
      have hq := set5_heap HR.out.1 (.int .i64 f) (.int .i64 lv) (.string ⟨(l[0]'hn).key.toArray⟩) (.string ⟨(l[l.length - 1]'(by omega)).key.toArray⟩) (.int .i64 (sw : Int))
      refine bodyPost_ret (v := .agg #[.int .i64 f, .int .i64 lv, .string ⟨(l[0]'hn).key.toArray⟩, .string ⟨(l[l.length - 1]'(by omega)).key.toArray⟩, .int .i64 (sw : Int)]) (results_table rfl _ _ w.heap.size _ rfl hq rfl) rfl ⟨by rw [HSw.out], ?_⟩
      exact below_drew (HR.out.2.trans ((set5_fr wz w.heap.size _ _ _ _ _ (fun k => k = w.heap.size) rfl).below HR.out.2.size (fun k hk e => by omega)))
end Go.Proofs.Yteclnnjijfbfoaa
