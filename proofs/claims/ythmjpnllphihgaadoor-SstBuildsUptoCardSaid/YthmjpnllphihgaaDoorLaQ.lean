/-
  What the rows' list of variables gives: the two tables hold their words; a world for the witness, in which they do.
-/
import Derived.Test.YthmjpnllphihgaaDoorGSc
import Derived.Test.YthmjpnllphihgaaDoorCards
import Derived.Test.YthmjpnllphihgaaDoorTie
import Derived.ProofKit
import Derived.OpenShut
import Derived.Deep.DeepHandedRow
import Derived.Lib.LaidTab
import Derived.Stop.LaidErr
namespace Go.Proofs.YthmjpnllphihgaaDoor
open Go.ChangeShapes Go.WideShapes Go.ChangeAt Go.RowKit

theorem own : ownKnob Tryd.prog.godebug = none := by kernel_rfl
theorem gLow : Tryd.prog.globalNamed "glacier/codec.ofLow" = some 0 := by kernel_rfl
theorem gHigh : Tryd.prog.globalNamed "glacier/codec.ofHigh" = some 1 := by kernel_rfl
theorem gLowType : (Tryd.prog.globals[0]?).map (·.type) = some 114 := by kernel_rfl
theorem gHighType : (Tryd.prog.globals[1]?).map (·.type) = some 114 := by kernel_rfl
theorem cellsTab : Tryd.prog.cellsOf 114 = 16 := by kernel_rfl
theorem cellsU32 : Tryd.prog.cellsOf 75 = 1 := by kernel_rfl
def lowZ : List Int := [0, 4067132163, 3778769143, 324072436, 3348797215, 904991772, 648144872, 3570033899, 2329499855, 2024987596, 1809983544, 2575936315, 1296289744, 3207089363, 2893594407, 1578318884]
def highZ : List Int := [0, 274646895, 549293790, 820201905, 1098587580, 1361435347, 1640403810, 1905808397, 2197175160, 2460548119, 2722870694, 2987750089, 3280807620, 3553878443, 3811616794, 4084100981]

theorem tabs_of {W : World} (h : laidMetH Tryd.prog [("glacier/codec.ofLow", Rows.laid_glacier_codec_ofLow), ("glacier/codec.ofHigh", Rows.laid_glacier_codec_ofHigh)] W) : Tabs W := by
  have hm : laidMet Tryd.prog [("glacier/codec.ofLow", Rows.laid_glacier_codec_ofLow), ("glacier/codec.ofHigh", Rows.laid_glacier_codec_ofHigh)] W := h
  have h1 : Lib.TabIs Tryd.prog W "glacier/codec.ofLow" .u32 lowZ := Lib.tabIs_of_head gLow gLowType Tryd.underlying114 Tryd.underlying75 cellsU32 cellsTab hm
  have h2 : Lib.TabIs Tryd.prog W "glacier/codec.ofHigh" .u32 highZ := Lib.tabIs_of_head gHigh gHighType Tryd.underlying114 Tryd.underlying75 cellsU32 cellsTab hm.tail
  have el : ∀ i, i < 16 → lowZ.getD i 0 = ((lowT.getD i 0 : Nat) : Int) := by decide
  have eh : ∀ i, i < 16 → highZ.getD i 0 = ((highT.getD i 0 : Nat) : Int) := by decide
  exact ⟨fun i hi => by rw [h1.cell gLow i (by simpa [lowZ] using hi), el i hi], fun i hi => by rw [h2.cell gHigh i (by simpa [highZ] using hi), eh i hi]⟩

/-- THE POST, where nothing that was there has changed. -/
theorem post_below {H : Type} {enc : TypeId × Value → H} {P : Program} {f : Func} {s : ChangeSpec} {W W' : World} {args : Array Value} {v : Value} {ds gs : List (DataW H)} {before pa pv : List MemPlace}
    (hW : DataW.Whole enc P f.params.toList s.vars false W args.toList ds gs before) (hb : Below W.heap.size W W')
    (hres : DataW.TrodAll enc P W' W.heap.size (fun _ => false) false f.resultTypes.toList (v.resultList f.resultTypes.size) (s.fn H (ds ++ gs)).results [])
    (hargs : DataW.TrodAll enc P W' 0 (fun b => decide (b < W.heap.size)) true f.params.toList args.toList (s.fn H (ds ++ gs)).args pa)
    (hvars : DataW.TrodVars enc P W' (fun b => decide (b < W.heap.size)) s.vars (s.fn H (ds ++ gs)).vars pv) :
    s.post enc P f false true false false W args v W' :=
  ⟨ds, gs, before, [], pa, pv, hW, hres, hargs, hvars, hb.frame _, fun h => by cases h⟩
def holds (cs : Array Value) : Obj → Obj
  | .cells _ t frozen => .cells cs t frozen
  | o => o
/-- A WORLD FOR THE WITNESS. -/
noncomputable def laidWorld (os : Os) : World :=
  { World.holding Tryd.prog os ⟨#[], #[], []⟩ with heap := ((World.holding Tryd.prog os ⟨#[], #[], []⟩).heap.modify 0 (holds (lowZ.map fun z => Value.int .u32 z).toArray)).modify 1 (holds (highZ.map fun z => Value.int .u32 z).toArray) }
end Go.Proofs.YthmjpnllphihgaaDoor
