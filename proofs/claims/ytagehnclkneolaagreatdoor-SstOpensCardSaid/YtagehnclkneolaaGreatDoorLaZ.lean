/-
  What the rows' list of variables gives: the two tables hold their words; a world for the witness, in which they do.
-/
import Derived.Test.YtagehnclkneolaaGreatDoorGSc
import Derived.Test.YtagehnclkneolaaGreatDoorCards
import Derived.Test.YtagehnclkneolaaGreatDoorTie
import Derived.ProofKit
import Derived.OpenShut
import Derived.Deep.DeepHandedRow
import Derived.Lib.LaidTab
import Derived.Stop.LaidErr
import Derived.LaidHandle
namespace Go.Proofs.YtagehnclkneolaaGreatDoor
open Go.ChangeShapes Go.WideShapes Go.ChangeAt Go.RowKit

theorem own : ownKnob Tryz.prog.godebug = none := by kernel_rfl
theorem gLow : Tryz.prog.globalNamed "glacier/codec.ofLow" = some 1 := by kernel_rfl
theorem gHigh : Tryz.prog.globalNamed "glacier/codec.ofHigh" = some 2 := by kernel_rfl
theorem gLowType : (Tryz.prog.globals[1]?).map (·.type) = some 185 := by kernel_rfl
theorem gHighType : (Tryz.prog.globals[2]?).map (·.type) = some 185 := by kernel_rfl
theorem cellsTab : Tryz.prog.cellsOf 185 = 16 := by kernel_rfl
theorem cellsU32 : Tryz.prog.cellsOf 93 = 1 := by kernel_rfl
def lowZ : List Int := [0, 4067132163, 3778769143, 324072436, 3348797215, 904991772, 648144872, 3570033899, 2329499855, 2024987596, 1809983544, 2575936315, 1296289744, 3207089363, 2893594407, 1578318884]
def highZ : List Int := [0, 274646895, 549293790, 820201905, 1098587580, 1361435347, 1640403810, 1905808397, 2197175160, 2460548119, 2722870694, 2987750089, 3280807620, 3553878443, 3811616794, 4084100981]

theorem gPow : Tryz.prog.globalNamed "internal/strconv.uint64pow10" = some 4 := by kernel_rfl
theorem gPowType : (Tryz.prog.globals[4]?).map (·.type) = some 201 := by kernel_rfl
theorem cellsPow : Tryz.prog.cellsOf 201 = 20 := by kernel_rfl
theorem cellsU64 : Tryz.prog.cellsOf 31 = 1 := by kernel_rfl
def powZ : List Int := [1, 10, 100, 1000, 10000, 100000, 1000000, 10000000, 100000000, 1000000000, 10000000000, 100000000000, 1000000000000, 10000000000000, 100000000000000, 1000000000000000, 10000000000000000, 100000000000000000, 1000000000000000000, 10000000000000000000]
def b32Z : List Int := [0, 1, 28, 2, 29, 14, 24, 3, 30, 22, 20, 15, 25, 17, 4, 8, 31, 27, 13, 23, 21, 19, 16, 7, 26, 12, 18, 6, 11, 5, 10, 9]
def b64Z : List Int := [0, 1, 56, 2, 57, 49, 28, 3, 61, 58, 42, 50, 38, 29, 17, 4, 62, 47, 59, 36, 45, 43, 51, 22, 53, 39, 33, 30, 24, 18, 12, 5, 63, 55, 48, 27, 60, 41, 37, 16, 46, 35, 44, 21, 52, 32, 23, 11, 54, 26, 40, 15, 34, 20, 31, 10, 25, 14, 19, 9, 13, 8, 7, 6]

/-- The rows' list, the variable that holds a type by itself. -/
theorem laid_parts {W : World} (h : laidMetH Tryz.prog [("math/bits.deBruijn32tab", Rows.laid_math_bits_deBruijn32tab), ("math/bits.deBruijn64tab", Rows.laid_math_bits_deBruijn64tab), ("internal/strconv.uint64pow10", Rows.laid_internal_strconv_uint64pow10), ("errors.errorType", Rows.laid_errors_errorType), ("glacier/codec.ofLow", Rows.laid_glacier_codec_ofLow), ("glacier/codec.ofHigh", Rows.laid_glacier_codec_ofHigh)] W) : laidMet Tryz.prog [("math/bits.deBruijn32tab", Rows.laid_math_bits_deBruijn32tab), ("math/bits.deBruijn64tab", Rows.laid_math_bits_deBruijn64tab), ("internal/strconv.uint64pow10", Rows.laid_internal_strconv_uint64pow10), ("glacier/codec.ofLow", Rows.laid_glacier_codec_ofLow), ("glacier/codec.ofHigh", Rows.laid_glacier_codec_ofHigh)] W ∧ handlesMet Tryz.prog [("errors.errorType", Rows.laid_errors_errorType)] W :=
  (show laidMet Tryz.prog _ W ∧ handlesMet Tryz.prog _ W from h)
theorem tabs_of {W : World} (h : laidMetH Tryz.prog [("math/bits.deBruijn32tab", Rows.laid_math_bits_deBruijn32tab), ("math/bits.deBruijn64tab", Rows.laid_math_bits_deBruijn64tab), ("internal/strconv.uint64pow10", Rows.laid_internal_strconv_uint64pow10), ("errors.errorType", Rows.laid_errors_errorType), ("glacier/codec.ofLow", Rows.laid_glacier_codec_ofLow), ("glacier/codec.ofHigh", Rows.laid_glacier_codec_ofHigh)] W) : Tabs W := by
  have hm5 := (laid_parts h).1.tail.tail.tail
  have h1 : Lib.TabIs Tryz.prog W "glacier/codec.ofLow" .u32 lowZ := Lib.tabIs_of_head gLow gLowType Tryz.underlying185 Tryz.underlying93 cellsU32 cellsTab hm5
  have h2 : Lib.TabIs Tryz.prog W "glacier/codec.ofHigh" .u32 highZ := Lib.tabIs_of_head gHigh gHighType Tryz.underlying185 Tryz.underlying93 cellsU32 cellsTab hm5.tail
  have el : ∀ i, i < 16 → lowZ.getD i 0 = ((lowT.getD i 0 : Nat) : Int) := by decide
  have eh : ∀ i, i < 16 → highZ.getD i 0 = ((highT.getD i 0 : Nat) : Int) := by decide
  exact ⟨fun i hi => by rw [h1.cell gLow i (by simpa [lowZ] using hi), el i hi], fun i hi => by rw [h2.cell gHigh i (by simpa [highZ] using hi), eh i hi]⟩
theorem pow_of {W : World} (h : laidMetH Tryz.prog [("math/bits.deBruijn32tab", Rows.laid_math_bits_deBruijn32tab), ("math/bits.deBruijn64tab", Rows.laid_math_bits_deBruijn64tab), ("internal/strconv.uint64pow10", Rows.laid_internal_strconv_uint64pow10), ("errors.errorType", Rows.laid_errors_errorType), ("glacier/codec.ofLow", Rows.laid_glacier_codec_ofLow), ("glacier/codec.ofHigh", Rows.laid_glacier_codec_ofHigh)] W) : Lib.TabIs Tryz.prog W "internal/strconv.uint64pow10" .u64 powZ :=
  Lib.tabIs_of_head gPow gPowType Tryz.underlying201 Tryz.underlying31 cellsU64 cellsPow (laid_parts h).1.tail.tail

/-- THE POST, where nothing that was there has changed. -/
theorem post_below {H : Type} {enc : TypeId × Value → H} {P : Program} {f : Func} {s : ChangeSpec} {W W' : World} {args : Array Value} {v : Value} {ds gs : List (DataW H)} {before pa pv : List MemPlace}
    (hW : DataW.Whole enc P f.params.toList s.vars false W args.toList ds gs before) (hb : Below W.heap.size W W')
    (hres : DataW.TrodAll enc P W' W.heap.size (fun _ => false) false f.resultTypes.toList (v.resultList f.resultTypes.size) (s.fn H (ds ++ gs)).results [])
    (hargs : DataW.TrodAll enc P W' 0 (fun b => decide (b < W.heap.size)) true f.params.toList args.toList (s.fn H (ds ++ gs)).args pa)
    (hvars : DataW.TrodVars enc P W' (fun b => decide (b < W.heap.size)) s.vars (s.fn H (ds ++ gs)).vars pv) :
    s.post enc P f false true false false W args v W' :=
  ⟨ds, gs, before, [], pa, pv, hW, hres, hargs, hvars, hb.frame _, fun h => by cases h⟩
def holds (cs : Array Value) : Obj → Obj
  | .cells _ t frozen => .cells cs t frozen
  | o => o
/-- A WORLD FOR THE WITNESS. -/
noncomputable def laidWorld (os : Os) : World :=
  let w0 := World.holding Tryz.prog os ⟨#[], #[], []⟩
  { w0 with heap := (((((w0.heap.modify 1 (holds (lowZ.map fun z => Value.int .u32 z).toArray)).modify 2 (holds (highZ.map fun z => Value.int .u32 z).toArray)).modify 4 (holds (powZ.map fun z => Value.int .u64 z).toArray)).modify 5 (holds (b32Z.map fun z => Value.int .u8 z).toArray)).modify 6 (holds (b64Z.map fun z => Value.int .u8 z).toArray)).modify 0 (holds #[.iface 149 (.agg #[typeHandle Tryz.prog 55])]) }
theorem met_of (os : Os) (args : Array Value) (h1 : laidMet Tryz.prog [("math/bits.deBruijn32tab", Rows.laid_math_bits_deBruijn32tab), ("math/bits.deBruijn64tab", Rows.laid_math_bits_deBruijn64tab), ("internal/strconv.uint64pow10", Rows.laid_internal_strconv_uint64pow10), ("glacier/codec.ofLow", Rows.laid_glacier_codec_ofLow), ("glacier/codec.ofHigh", Rows.laid_glacier_codec_ofHigh)] ((laidWorld os).forCall (fun _ _ => 0) ⟨#[], args, []⟩).memory) : laidMetH Tryz.prog [("math/bits.deBruijn32tab", Rows.laid_math_bits_deBruijn32tab), ("math/bits.deBruijn64tab", Rows.laid_math_bits_deBruijn64tab), ("internal/strconv.uint64pow10", Rows.laid_internal_strconv_uint64pow10), ("errors.errorType", Rows.laid_errors_errorType), ("glacier/codec.ofLow", Rows.laid_glacier_codec_ofLow), ("glacier/codec.ofHigh", Rows.laid_glacier_codec_ofHigh)] ((laidWorld os).forCall (fun _ _ => 0) ⟨#[], args, []⟩).memory :=
  laidMetH_of_parts3 (fuel := 8) h1 (by kernel_rfl) (by kernel_rfl)
end Go.Proofs.YtagehnclkneolaaGreatDoor
