/-
  A map from numbers to versions that holds one entry at most: looked up, stored into; the walk over past.item.
-/
import Derived.Test.YtaomneenflkpeaaSkI
import Derived.Test.YtaomneenflkpeaaRngA
import Derived.MapKept
namespace Go.Proofs.Ytaomneenflkpeaa
open Go.RowKit Go.MapKept

def lkV : Option (Nat × Value) → Value
  | some (_, v) => v
  | none => verV noE
theorem map_look (w : World) (mm clock : Nat) (es : Array MapEntry) (h : w.heap[mm]? = some (.map es clock)) (k : Int) (a : Option (Nat × Value)) (hf : Instr.findNow (.int .i64) (.int .i64 k) es.toList 0 = some a) :
    (Instr.lookup 115 (.map (some mm)) (.int .i64 k) true).run Try.prog w = .ok (.tuple #[lkV a, .bool a.isSome]) w := by
  have h1 : (Instr.checkKey es.isEmpty 10000 3 (.int .i64 k)).run Try.prog w = .ok () w := run_checkKey (n := 9999) Try.underlying3 (show IsKey (.int .i64) (.int .i64 k) by unfold IsKey; rfl) _
  have h2 : (Instr.findKey 3 (.int .i64 k) es.toList).run Try.prog w = .ok a w := run_findKey Try.underlying3 hf
  have h3 : (zeroValue 59).run Try.prog w = .ok (verV noE) w := Try.zeroValue59 w
  cases a with
  | none => simp [lkV, Instr.lookup, run_underlying Try.underlying115, getObj, Sem.run, h, h1, h2, h3, Result.andThen]
  | some p => simp [lkV, Instr.lookup, run_underlying Try.underlying115, getObj, Sem.run, h, h1, h2, Result.andThen]
theorem map_upd (w : World) (mm : Nat) (h : w.heap[mm]? = some (.map #[] 0)) (k : Int) (v : Value) :
    (Instr.mapUpdate 115 (.map (some mm)) (.int .i64 k) v).run Try.prog w = .ok () (w.putObj mm (.map #[{ key := .int .i64 k, val := v, born := 0 }] 1)) := by
  have h1 : (Instr.checkKey false 10000 3 (.int .i64 k)).run Try.prog w = .ok () w := run_checkKey (n := 9999) Try.underlying3 (show IsKey (.int .i64) (.int .i64 k) by unfold IsKey; rfl) _
  have h2 : (Instr.findKey 3 (.int .i64 k) []).run Try.prog w = .ok none w := run_findKey Try.underlying3 rfl
  simp [Instr.mapUpdate, run_underlying Try.underlying115, getObj, Sem.run, h, h1, h2, Result.andThen, setObj, World.putObj]
/-- A map that holds one entry at most. -/
def esM : Option (Nat × Ent) → Array MapEntry
  | none => #[]
  | some (k, e) => #[{ key := .int .i64 (k : Int), val := verV e, born := 0 }]
def clM : Option (Nat × Ent) → Nat
  | none => 0
  | some _ => 1
def MapM (w : World) (mm : Nat) (m : Option (Nat × Ent)) : Prop := w.heap[mm]? = some (.map (esM m) (clM m))
def lookM (m : Option (Nat × Ent)) (num : Nat) : Option Ent := match m with | some (k, e) => if k = num then some e else none | none => none
theorem MapM.look {w : World} {mm : Nat} {m : Option (Nat × Ent)} (h : MapM w mm m) (num : Nat) :
    (Instr.lookup 115 (.map (some mm)) (.int .i64 (num : Int)) true).run Try.prog w = .ok (.tuple #[verV ((lookM m num).getD noE), .bool (lookM m num).isSome]) w := by
  have hf : Instr.findNow (.int .i64) (.int .i64 (num : Int)) (esM m).toList 0 = some ((lookM m num).map fun e => (0, verV e)) := by
    cases m with
    | none => rfl
    | some p =>
      obtain ⟨k, e⟩ := p
      by_cases hk : k = num
      · subst hk
        simp [esM, lookM, Instr.findNow, Instr.sameNow]
      · have h1 : ((num : Int) == (k : Int)) = false := by rw [beq_eq_false_iff_ne]; omega
        simp [esM, lookM, Instr.findNow, Instr.sameNow, h1, hk]
  rw [map_look w mm _ _ h _ _ hf]
  cases lookM m num <;> rfl

set_option maxRecDepth 100000 in
set_option maxHeartbeats 2000000 in
theorem item_still (w : World) (pb mm b : Nat) (m : Option (Nat × Ent)) (nd : Nd) (h0 : w.cell? ⟨pb, 0, none⟩ = some (.map (some mm))) (h1 : w.cell? ⟨pb, 1, none⟩ = some (.pointer (some ⟨b, 0, none⟩))) (hb5 : w.cell? ⟨b, 5, none⟩ = some (.pointer none)) (hm : MapM w mm m) (hn : NdB w nd) :
    Calls Try.prog 63 #[.pointer (some ⟨pb, 0, none⟩), .pointer (some ⟨nd.blk, 0, none⟩)] w fun r w' => r = .returned (verV ((lookM m nd.num).getD nd.ent)) ∧ Below w.heap.size w w' := by
  obtain ⟨X, hX⟩ : ∃ X, w.alloc (.cells #[.string ⟨#[]⟩, .int .u64 0, .bool false, .string ⟨#[]⟩] 59) = X := ⟨_, rfl⟩
  have hb : Below w.heap.size w X := by rw [← hX]; exact (Below.refl _ _).alloc (Nat.le_refl _) _
  have hXs : X.heap.size = w.heap.size + 1 := by rw [← hX]; simp
  have hXb : X.heap[w.heap.size]? = some (.cells #[.string ⟨#[]⟩, .int .u64 0, .bool false, .string ⟨#[]⟩] 59 (0, 0)) := by rw [← hX]; exact heap_alloc_new w _
  have x0 := (hb.cell (p := ⟨pb, 0, none⟩) (cell_lt h0)).trans h0
  have x1 := (hb.cell (p := ⟨pb, 1, none⟩) (cell_lt h1)).trans h1
  have x5 := (hb.cell (p := ⟨b, 5, none⟩) (cell_lt hb5)).trans hb5
  have hmX : MapM X mm m := (hb.block mm (block_lt hm)).trans hm
  have hnX : NdB X nd := (hb.block nd.blk (block_lt hn)).trans hn
  have n4 : X.cell? ⟨nd.blk, 4, none⟩ = some (.int .i64 (nd.num : Int)) := cell_of hnX rfl
  obtain ⟨y, hy⟩ : ∃ y, (lookM m nd.num).getD noE = y := ⟨_, rfl⟩
  obtain ⟨is, his⟩ : ∃ is, (lookM m nd.num).isSome = is := ⟨_, rfl⟩
  obtain ⟨z, hz⟩ : ∃ z, (lookM m nd.num).getD nd.ent = z := ⟨_, rfl⟩
  rw [hz]
  have HZ : Hid ((is = true → z = y) ∧ (is = false → z = nd.ent)) := Lib.hid (by
    rw [← hy, ← his, ← hz]
    cases lookM m nd.num <;> simp)
  have hlk : ∀ W : World, W.heap[mm]? = some (.map (esM m) (clM m)) → (Instr.lookup 115 (.map (some mm)) (.int .i64 (nd.num : Int)) true).run Try.prog W = .ok (.tuple #[.agg #[.string ⟨y.key.toArray⟩, .int .u64 (y.seq : Int), .bool y.gone, .string ⟨y.val.toArray⟩], .bool is]) W := fun W hW => by
    have h := MapM.look (w := W) (mm := mm) (m := m) hW nd.num
    rw [hy, his] at h
    exact h
  have HM := Lib.hid hmX
  have HNd := Lib.hid hnX
  have HB := Lib.hid hb
  have HXb := Lib.hid hXb
  have HXs := Lib.hid hXs
  have hmX' : X.heap[mm]? = some (.map (esM m) (clM m)) := hmX
  generalize esM m = es at *
  generalize clM m = cl at *
  clear hb hXs hXb h0 h1 hb5 hm hn hnX hmX hy his hz
  go_enter Try.func63, Try.ntmps63
  go_wp2_with fail
  go_loopg [] 0 (fun g wr => X = wr)
  case atStart => rfl
  case round =>
    subst hrel
    go_wp2_with fail
    have hpl := cell_lt x0
    have hnl := cell_lt n4
    have hml := (Array.getElem?_eq_some_iff.1 hmX').1
    have a0 : ∀ o, (X.alloc o).cell? ⟨pb, 0, none⟩ = some (.map (some mm)) := fun o => (World.cell?_of_block (alloc_old hpl o)).trans x0
    have a4 : ∀ o, (X.alloc o).cell? ⟨nd.blk, 4, none⟩ = some (.int .i64 (nd.num : Int)) := fun o => (World.cell?_of_block (alloc_old hnl o)).trans n4
    have am : ∀ o, (X.alloc o).heap[mm]? = some (.map es cl) := fun o => (alloc_old hml o).trans hmX'
    clear hpl hnl hml
    go_region_held3 (fun w' => w'.cell? ⟨pb, 0, none⟩ = some (.map (some mm)) ∧ w'.cell? ⟨nd.blk, 4, none⟩ = some (.int .i64 (nd.num : Int)) ∧ w'.heap[mm]? = some (.map es cl))
      (first
        | exact ⟨x0, n4, hmX'⟩
        | exact ⟨a0 _, a4 _, am _⟩)
      (fail)
    all_goals
      obtain ⟨V, hV⟩ : ∃ V, (X.alloc (.cells #[.string ⟨y.key.toArray⟩, .int .u64 (y.seq : Int), .bool y.gone, .string ⟨y.val.toArray⟩] 59)).drew = V := ⟨_, rfl⟩
      have hbV : Below X.heap.size X V := by rw [← hV]; exact below_drew ((Below.refl _ _).alloc (Nat.le_refl _) _)
      have hVy : V.heap[X.heap.size]? = some (.cells #[.string ⟨y.key.toArray⟩, .int .u64 (y.seq : Int), .bool y.gone, .string ⟨y.val.toArray⟩] 59 (0, 0)) := by rw [← hV]; exact heap_alloc_new X _
      have hVr := (hbV.block w.heap.size (block_lt HXb.out)).trans HXb.out
      have hVn := (hbV.block nd.blk (block_lt HNd.out)).trans HNd.out
      have y0 : V.cell? ⟨X.heap.size, 0, none⟩ = some (.string ⟨y.key.toArray⟩) := cell_of hVy rfl
      have y1 : V.cell? ⟨X.heap.size, 1, none⟩ = some (.int .u64 (y.seq : Int)) := cell_of hVy rfl
      have y2 : V.cell? ⟨X.heap.size, 2, none⟩ = some (.bool y.gone) := cell_of hVy rfl
      have y3 : V.cell? ⟨X.heap.size, 3, none⟩ = some (.string ⟨y.val.toArray⟩) := cell_of hVy rfl
      have r0 := cell_of (i := 0) hVr rfl
      have z0 := frozen_of (i := 0) hVr
      have r1 := cell_of (i := 1) hVr rfl
      have z1 := frozen_of (i := 1) hVr
      have r2 := cell_of (i := 2) hVr rfl
      have z2 := frozen_of (i := 2) hVr
      have r3 := cell_of (i := 3) hVr rfl
      have z3 := frozen_of (i := 3) hVr
      have d0 : V.cell? ⟨nd.blk, 0, none⟩ = some (.string ⟨nd.ent.key.toArray⟩) := cell_of hVn rfl
      have d1 : V.cell? ⟨nd.blk, 1, none⟩ = some (.int .u64 (nd.ent.seq : Int)) := cell_of hVn rfl
      have d2 : V.cell? ⟨nd.blk, 2, none⟩ = some (.bool nd.ent.gone) := cell_of hVn rfl
      have d3 : V.cell? ⟨nd.blk, 3, none⟩ = some (.string ⟨nd.ent.val.toArray⟩) := cell_of hVn rfl
      have HVr := Lib.hid hVr
      have HBV : Hid (Below w.heap.size w V) := Lib.hid (HB.out.trans (hbV.mono HB.out.size))
      rw [hV]
      clear hV hbV hVy hVr hVn
      cases is
      · have hz := HZ.out.2 rfl
        subst hz
        go_wp2_with fail
        have hfr := set4_fr V w.heap.size (.string ⟨nd.ent.key.toArray⟩) (.int .u64 (nd.ent.seq : Int)) (.bool nd.ent.gone) (.string ⟨nd.ent.val.toArray⟩) (fun k => k = w.heap.size) rfl
        refine bodyPost_ret (v := .agg #[.string ⟨nd.ent.key.toArray⟩, .int .u64 (nd.ent.seq : Int), .bool nd.ent.gone, .string ⟨nd.ent.val.toArray⟩]) (results_ver rfl _ _ w.heap.size _ rfl (set4_heap HVr.out _ _ _ _) rfl) rfl ⟨rfl, HBV.out.trans (hfr.below HBV.out.size fun k hk e => by omega)⟩
      · have hz := HZ.out.1 rfl
        subst hz
        go_wp2_with fail
        have hfr := set4_fr V w.heap.size (.string ⟨z.key.toArray⟩) (.int .u64 (z.seq : Int)) (.bool z.gone) (.string ⟨z.val.toArray⟩) (fun k => k = w.heap.size) rfl
        refine bodyPost_ret (v := .agg #[.string ⟨z.key.toArray⟩, .int .u64 (z.seq : Int), .bool z.gone, .string ⟨z.val.toArray⟩]) (results_ver rfl _ _ w.heap.size _ rfl (set4_heap HVr.out _ _ _ _) rfl) rfl ⟨rfl, HBV.out.trans (hfr.below HBV.out.size fun k hk e => by omega)⟩
end Go.Proofs.Ytaomneenflkpeaa
