/-
  The walk over merge.Merge's yield: one more is collected.
-/
import Derived.Test.YteclnnjijfbfoaaMgV
import Derived.Test.YteclnnjijfbfoaaMgG
namespace Go.Proofs.Yteclnnjijfbfoaa
open Go.RowKit

/-- What has been collected in the box b0; all of it lies from B on. -/
def OutM (b0 B : Nat) (ts : List TEnt) (W : World) : Prop := Coll (fun k => B ≤ k) b0 B W ts W

set_option maxRecDepth 100000 in
set_option maxHeartbeats 4000000 in
theorem m_yield (w : World) (b0 B : Nat) (ts : List TEnt) (hC : OutM b0 B ts w) (hb0 : b0 < B) (F : Nat → Prop) (x : Ent) (q : Option Addr) (c : Nat) (hfx : FitE x) (hV : By w F (.slice q x.val.length c) x.val) (hn : ts.length ≤ 1048576) :
    Calls Try.prog 33 #[.agg #[.string ⟨x.key.toArray⟩, .int .u64 (x.seq : Int), .bool x.gone, .slice q x.val.length c], .pointer (some ⟨b0, 0, none⟩)] w fun r w' => r = .returned (.bool true) ∧ (∃ u, OutM b0 B (ts ++ [(x, u)]) w') ∧ KpE (fun k => k = b0) B w w' ∧
      ∀ k, k < w.heap.size → k ≠ b0 → (∀ v, Boxed w b0 26 v → v.ownBlock ≠ some k) → w'.heap[k]? = w.heap[k]? := by
  obtain ⟨v, hbx, hrow, hq, _, hsz⟩ := hC
  obtain ⟨po, co, rfl, _, _⟩ := row_shape hrow
  obtain ⟨W0, hW0⟩ : ∃ W0, (w.alloc (.cells #[.string ⟨x.key.toArray⟩, .int .u64 (x.seq : Int), .bool x.gone, .slice q x.val.length c] 33)).drew = W0 := ⟨_, rfl⟩
  have hbW : Below w.heap.size w W0 := by rw [← hW0]; exact below_drew ((Below.refl _ _).alloc (Nat.le_refl _) _)
  have hxW : W0.heap[w.heap.size]? = some (.cells #[.string ⟨x.key.toArray⟩, .int .u64 (x.seq : Int), .bool x.gone, .slice q x.val.length c] 33 (0, 0)) := by rw [← hW0]; exact heap_alloc_new w _
  have hbxW : W0.heap[b0]? = some (.cells #[.slice po ts.length co] 26 (0, 0)) := (hbW.block _ (block_lt hbx)).trans hbx
  have HOwn := Lib.hid (mg_own W0 F x q c hfx (hV.below hbW))
  have HBx := Lib.hid hbxW
  have HW := Lib.hid hbW
  have HBw := Lib.hid hbx
  have HRow := Lib.hid hrow
  have HQ := Lib.hid hq
  have HLn : Hid (ts.length + 1 ≤ 68719476736) := Lib.hid (by omega)
  have HSz := Lib.hid (And.intro hsz hb0)
  have c0 := cell_of (i := 0) hbxW rfl
  have y0 := cell_of (i := 0) hxW rfl
  have y1 := cell_of (i := 1) hxW rfl
  have y2 := cell_of (i := 2) hxW rfl
  have y3 := cell_of (i := 3) hxW rfl
  clear hbx hrow hq hsz hb0 hV hfx hn hbW hbxW hxW
  go_enter Try.func33, Try.ntmps33
  go_wp2_with fail
  go_region_law (first
    | (go_simp; go_at_call 34
       refine HOwn.out.mono ?_
       rintro r w1 ⟨p3, k3, rfl, ho, hb1⟩
       obtain ⟨X3, hX3⟩ : ∃ X3, w1.alloc (.cells #[.string ⟨x.key.toArray⟩, .int .u64 (x.seq : Int), .bool x.gone, .slice p3 x.val.length k3] 33) = X3 := ⟨_, rfl⟩
       have hb3 : Below w1.heap.size w1 X3 := (by rw [← hX3]; exact (Below.refl _ _).alloc (Nat.le_refl _) _)
       have hw1 := (hb1.block _ (block_lt HBx.out)).trans HBx.out
       have hw3 := (hb3.block _ (block_lt hw1)).trans hw1
       have c1 := cell_of (i := 0) hw1 rfl
       have c3 := cell_of (i := 0) hw3 rfl
       have hbAll : Below w.heap.size w X3 := HW.out.trans ((hb1.trans (hb3.mono hb1.size)).mono HW.out.size)
       have HRX : Hid (X3.ownsRow B 33 4 (.slice po ts.length co) ts.length (cellsE (ts.map Prod.fst) (ts.map TEnt.u))) := Lib.hid (row_keep HRow.out fun k hk => hbAll.block k (row_lt HRow.out k hk))
       have HCX : Hid (Cl X3 (fun k => k = w1.heap.size) (.slice (some ⟨w1.heap.size, 0, none⟩) 1 1) 1 (cellsE [x] [.slice p3 x.val.length k3])) := Lib.hid (by
         have h9 := Cl.new w1 (fun k => k = w1.heap.size) 1 (cellsE [x] [.slice p3 x.val.length k3]) #[.string ⟨x.key.toArray⟩, .int .u64 (x.seq : Int), .bool x.gone, .slice p3 x.val.length k3] 33 rfl (by omega) rfl
         rw [hX3] at h9
         exact h9)
       have HSzX : Hid (B ≤ X3.heap.size) := Lib.hid (Nat.le_trans HSz.out.1 hbAll.size)
       have HOne : Hid (∀ y ∈ cellsE [x] [.slice p3 x.val.length k3], y.oneCell' = true) := Lib.hid (cellsE_one _ _ (by simp [Value.oneCell']))
       have HO3 : Hid (Own X3 W0.heap.size (.slice p3 x.val.length k3) x.val) := Lib.hid (by rw [← hX3]; exact ho.alloc _)
       have HPut : Hid (∀ (w4 : World) (p9 : Option Addr) (c9 : Nat), w4.ownsRow B 33 4 (.slice p9 (ts.length + 1) c9) (ts.length + 1) (cellsE (ts.map Prod.fst) (ts.map TEnt.u) ++ cellsE [x] [.slice p3 x.val.length k3]) → X3.grownBy w4 (Value.slice po ts.length co).ownBlock →
           w4.heap[b0]? = some (.cells #[.slice po ts.length co] 26 (0, 0)) ∧
           OutM b0 B (ts ++ [(x, (p3, k3))]) (w4.setCell ⟨b0, 0, none⟩ (.slice p9 (ts.length + 1) c9)) ∧ KpE (fun k => k = b0) B w (w4.setCell ⟨b0, 0, none⟩ (.slice p9 (ts.length + 1) c9)) ∧
           ∀ k, k < w.heap.size → k ≠ b0 → (∀ v, Boxed w b0 26 v → v.ownBlock ≠ some k) → (w4.setCell ⟨b0, 0, none⟩ (.slice p9 (ts.length + 1) c9)).heap[k]? = w.heap[k]?) := Lib.hid (fun w4 p9 c9 ho4 hg4 => by
         have hx9 : QT (fun k => B ≤ k) (x, (p3, k3)) X3 := ⟨HO3.out.low, fun j hj => by have := HO3.out.block j hj; have := HW.out.size; have := HSz.out.1; omega⟩
         have hq9 : ∀ y ∈ ts, QT (fun k => B ≤ k) y X3 := fun y hy => (HQ.out y hy).keep (fun j hj => by
           obtain ⟨cur, hcu⟩ := (HQ.out y hy).1.heap hj
           exact hbAll.block j (block_lt hcu)) (fun _ _ hs => hs)
         obtain ⟨⟨v, k1, k2, k3', _, k5⟩, k6, _⟩ := coll_add (x := (x, (p3, k3))) (w := X3) hw3 HRX.out hq9 hx9 (Below.refl _ _) HSzX.out HSz.out.2 ho4 hg4
         exact ⟨(((Below.refl _ X3).grown hg4 HSzX.out (row_low HRX.out)).block b0 HSz.out.2).trans hw3, ⟨v, k1, k2, k3', Below.refl _ _, k5⟩, (KpE.of_below hbAll).trans k6, fun k hk hkb hv => (setCell_other hkb _).trans ((hg4.block k (Nat.lt_of_lt_of_le hk hbAll.size) (fun e => hv _ HBw.out e.symm)).trans (hbAll.block k hk))⟩)
       clear ho hb1 hb3 hw1 hw3 hbAll)
    | (refine slEnt.step_append rfl (.tmp 4) (.tmp 7) rfl B (v := .slice po ts.length co) (u := .slice (some ⟨w1.heap.size, 0, none⟩) 1 1) rfl rfl HRX.out HCX.out rfl HOne.out HLn.out HSzX.out ?_
       intro v4 w4 ho4 hg4 _
       obtain ⟨p9, c9, rfl, _, _⟩ := row_shape ho4
       have hPp := HPut.out w4 p9 c9 ho4 hg4
       have c4 := cell_of (i := 0) hPp.1 rfl
       have z4 := frozen_of (i := 0) hPp.1
       have HFin := Lib.hid hPp.2
       clear hPp ho4 hg4))
  all_goals
    go_wp2_with fail
    go_ret
    exact ⟨rfl, ⟨_, HFin.out.1⟩, HFin.out.2.1, HFin.out.2.2⟩
end Go.Proofs.Yteclnnjijfbfoaa
