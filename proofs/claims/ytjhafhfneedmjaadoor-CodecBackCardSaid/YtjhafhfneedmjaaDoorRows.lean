/-
  NARROWER THAN 'FOR EVERY INPUT', by the rows' own cells (each row's printed sentence says how): CodecSums: laid · CodecReads: laid · CodecWrites: laid · CodecBack: laid · CodecFronts: laid · CodecBits: laid · CodecGrows: laid · CodecNests: laid.
  DERIVED. THE GIVEN ROWS OF THIS SEAT. 8 by the template 'for every input the law returns true; each argument reads behind the call as it read before'; 0 by the template 'total and deterministic' (their statements: YtjhafhfneedmjaaDoorTotals.lean).
  GIVEN WITH THE SEED: the statements are not yours to turn. If you find one false, say at which input.
  Laid BY PROGRAM, IN A SANDBOX (cutbox-rows.mjs): the forced cells as the released guide's own fill.sh prints them over the translation edafda83eac26f09… (all of the seat's roots in one cut). By AI agents, Wed Nov 11 2026. No macro, syntax, notation, axiom, sorry.
-/
import Derived.Test.YtjhafhfneedmjaaDoorChecked
import GoSem.Claim
import GoSem.ClaimJoined
import GoSem.ClaimMapViews
import Derived.JoinedTies
import Derived.KernelRfl
namespace Go.Proofs.YtjhafhfneedmjaaDoor
/- THE CELL 'sum', in the pinned program and in every row, IS THE sha256 OF THE DUMP (.gsa) THAT YtjhafhfneedmjaaDoorProg.lean LOADS. Nothing in Lean hashes anything: it is a label: what it is worth is what the hold of that sum in a sandbox is worth. -/
noncomputable def Tryd.pinned : Pinned := { name := "ytjhafhfneedmjaadoor", sum := "edafda83eac26f09a109845647f3fe256e12543d794e3646766b8d8cf9500550", checked := Tryd.checked }
namespace Rows
def none {H : Type} : Left H := { results := [], args := [] }

/- WHAT THE LISTED PACKAGE-LEVEL VARIABLES READ AS WHEN THE CALL BEGINS. Each datum BY PROGRAM (the guide's laid-datum.mjs) off the statement by which the dump's own 'gosem.cut.vars' lays the variable. In a bare row this is a premise. The card (YtjhafhfneedmjaaDoorCards.lean) ties it to the program's text. -/
def laid_glacier_codec_ofLow {H : Type} : DataW H := .agg [.lit (.int .u32 0), .lit (.int .u32 4067132163), .lit (.int .u32 3778769143), .lit (.int .u32 324072436), .lit (.int .u32 3348797215), .lit (.int .u32 904991772), .lit (.int .u32 648144872), .lit (.int .u32 3570033899), .lit (.int .u32 2329499855), .lit (.int .u32 2024987596), .lit (.int .u32 1809983544), .lit (.int .u32 2575936315), .lit (.int .u32 1296289744), .lit (.int .u32 3207089363), .lit (.int .u32 2893594407), .lit (.int .u32 1578318884)]
def laid_glacier_codec_ofHigh {H : Type} : DataW H := .agg [.lit (.int .u32 0), .lit (.int .u32 274646895), .lit (.int .u32 549293790), .lit (.int .u32 820201905), .lit (.int .u32 1098587580), .lit (.int .u32 1361435347), .lit (.int .u32 1640403810), .lit (.int .u32 1905808397), .lit (.int .u32 2197175160), .lit (.int .u32 2460548119), .lit (.int .u32 2722870694), .lit (.int .u32 2987750089), .lit (.int .u32 3280807620), .lit (.int .u32 3553878443), .lit (.int .u32 3811616794), .lit (.int .u32 4084100981)]

/-- 'glacierlaw1.CodecSums': WHATEVER THE INPUT: true; the input reads as it did. -/
def codecSumsSpec : ChangeSpec := { name := "codecSums", fn := fun _ => fun
  | [d] => { results := [.lit (.bool true)], args := [d] }
  | _ => none }
def codecSumsRow : OpenClaim := { program := "ytjhafhfneedmjaadoor", sum := "edafda83eac26f09a109845647f3fe256e12543d794e3646766b8d8cf9500550", func := "glacier/glacierlaw1.CodecSums", spec := "codecSums", named := ["glacier/codec.ofLow", "glacier/codec.ofHigh"], apart := false, laid := [("glacier/codec.ofLow", laid_glacier_codec_ofLow), ("glacier/codec.ofHigh", laid_glacier_codec_ofHigh)] }
def CodecSumsSaid : Prop := codecSumsRow.holds Tryd.pinned (OpenSpec.ofChange codecSumsSpec)

/-- ITS FALSE NEIGHBOUR: 'it returns false'. Refute it at one input. -/
def codecSumsWrong : ChangeSpec := { name := "codecSums", fn := fun _ => fun
  | [d] => { results := [.lit (.bool false)], args := [d] }
  | _ => none }
def CodecSumsWrongFalsely : Prop := codecSumsRow.holds Tryd.pinned (OpenSpec.ofChange codecSumsWrong)

/-- 'glacierlaw1.CodecReads': WHATEVER THE INPUT: true; the input reads as it did. -/
def codecReadsSpec : ChangeSpec := { name := "codecReads", fn := fun _ => fun
  | [d1, d2] => { results := [.lit (.bool true)], args := [d1, d2] }
  | _ => none }
def codecReadsRow : OpenClaim := { program := "ytjhafhfneedmjaadoor", sum := "edafda83eac26f09a109845647f3fe256e12543d794e3646766b8d8cf9500550", func := "glacier/glacierlaw1.CodecReads", spec := "codecReads", named := ["glacier/codec.ofLow", "glacier/codec.ofHigh"], apart := false, laid := [("glacier/codec.ofLow", laid_glacier_codec_ofLow), ("glacier/codec.ofHigh", laid_glacier_codec_ofHigh)] }
def CodecReadsSaid : Prop := codecReadsRow.holds Tryd.pinned (OpenSpec.ofChange codecReadsSpec)

/-- ITS FALSE NEIGHBOUR: 'it returns false'. Refute it at one input. -/
def codecReadsWrong : ChangeSpec := { name := "codecReads", fn := fun _ => fun
  | [d1, d2] => { results := [.lit (.bool false)], args := [d1, d2] }
  | _ => none }
def CodecReadsWrongFalsely : Prop := codecReadsRow.holds Tryd.pinned (OpenSpec.ofChange codecReadsWrong)

/-- 'glacierlaw1.CodecWrites': WHATEVER THE INPUT: true; the input reads as it did. -/
def codecWritesSpec : ChangeSpec := { name := "codecWrites", fn := fun _ => fun
  | [d1, d2, d3] => { results := [.lit (.bool true)], args := [d1, d2, d3] }
  | _ => none }
def codecWritesRow : OpenClaim := { program := "ytjhafhfneedmjaadoor", sum := "edafda83eac26f09a109845647f3fe256e12543d794e3646766b8d8cf9500550", func := "glacier/glacierlaw1.CodecWrites", spec := "codecWrites", named := ["glacier/codec.ofLow", "glacier/codec.ofHigh"], apart := false, laid := [("glacier/codec.ofLow", laid_glacier_codec_ofLow), ("glacier/codec.ofHigh", laid_glacier_codec_ofHigh)] }
def CodecWritesSaid : Prop := codecWritesRow.holds Tryd.pinned (OpenSpec.ofChange codecWritesSpec)

/-- ITS FALSE NEIGHBOUR: 'it returns false'. Refute it at one input. -/
def codecWritesWrong : ChangeSpec := { name := "codecWrites", fn := fun _ => fun
  | [d1, d2, d3] => { results := [.lit (.bool false)], args := [d1, d2, d3] }
  | _ => none }
def CodecWritesWrongFalsely : Prop := codecWritesRow.holds Tryd.pinned (OpenSpec.ofChange codecWritesWrong)

/-- 'glacierlaw1.CodecBack': WHATEVER THE INPUT: true; the input reads as it did. -/
def codecBackSpec : ChangeSpec := { name := "codecBack", fn := fun _ => fun
  | [d1, d2, d3] => { results := [.lit (.bool true)], args := [d1, d2, d3] }
  | _ => none }
def codecBackRow : OpenClaim := { program := "ytjhafhfneedmjaadoor", sum := "edafda83eac26f09a109845647f3fe256e12543d794e3646766b8d8cf9500550", func := "glacier/glacierlaw1.CodecBack", spec := "codecBack", named := ["glacier/codec.ofLow", "glacier/codec.ofHigh"], apart := false, laid := [("glacier/codec.ofLow", laid_glacier_codec_ofLow), ("glacier/codec.ofHigh", laid_glacier_codec_ofHigh)] }
def CodecBackSaid : Prop := codecBackRow.holds Tryd.pinned (OpenSpec.ofChange codecBackSpec)

/-- ITS FALSE NEIGHBOUR: 'it returns false'. Refute it at one input. -/
def codecBackWrong : ChangeSpec := { name := "codecBack", fn := fun _ => fun
  | [d1, d2, d3] => { results := [.lit (.bool false)], args := [d1, d2, d3] }
  | _ => none }
def CodecBackWrongFalsely : Prop := codecBackRow.holds Tryd.pinned (OpenSpec.ofChange codecBackWrong)

/-- 'glacierlaw1.CodecFronts': WHATEVER THE INPUT: true; the input reads as it did. -/
def codecFrontsSpec : ChangeSpec := { name := "codecFronts", fn := fun _ => fun
  | [d1, d2] => { results := [.lit (.bool true)], args := [d1, d2] }
  | _ => none }
def codecFrontsRow : OpenClaim := { program := "ytjhafhfneedmjaadoor", sum := "edafda83eac26f09a109845647f3fe256e12543d794e3646766b8d8cf9500550", func := "glacier/glacierlaw1.CodecFronts", spec := "codecFronts", named := ["glacier/codec.ofLow", "glacier/codec.ofHigh"], apart := false, laid := [("glacier/codec.ofLow", laid_glacier_codec_ofLow), ("glacier/codec.ofHigh", laid_glacier_codec_ofHigh)] }
def CodecFrontsSaid : Prop := codecFrontsRow.holds Tryd.pinned (OpenSpec.ofChange codecFrontsSpec)

/-- ITS FALSE NEIGHBOUR: 'it returns false'. Refute it at one input. -/
def codecFrontsWrong : ChangeSpec := { name := "codecFronts", fn := fun _ => fun
  | [d1, d2] => { results := [.lit (.bool false)], args := [d1, d2] }
  | _ => none }
def CodecFrontsWrongFalsely : Prop := codecFrontsRow.holds Tryd.pinned (OpenSpec.ofChange codecFrontsWrong)

/-- 'glacierlaw1.CodecBits': WHATEVER THE INPUT: true; the input reads as it did. -/
def codecBitsSpec : ChangeSpec := { name := "codecBits", fn := fun _ => fun
  | [d1, d2] => { results := [.lit (.bool true)], args := [d1, d2] }
  | _ => none }
def codecBitsRow : OpenClaim := { program := "ytjhafhfneedmjaadoor", sum := "edafda83eac26f09a109845647f3fe256e12543d794e3646766b8d8cf9500550", func := "glacier/glacierlaw1.CodecBits", spec := "codecBits", named := ["glacier/codec.ofLow", "glacier/codec.ofHigh"], apart := false, laid := [("glacier/codec.ofLow", laid_glacier_codec_ofLow), ("glacier/codec.ofHigh", laid_glacier_codec_ofHigh)] }
def CodecBitsSaid : Prop := codecBitsRow.holds Tryd.pinned (OpenSpec.ofChange codecBitsSpec)

/-- ITS FALSE NEIGHBOUR: 'it returns false'. Refute it at one input. -/
def codecBitsWrong : ChangeSpec := { name := "codecBits", fn := fun _ => fun
  | [d1, d2] => { results := [.lit (.bool false)], args := [d1, d2] }
  | _ => none }
def CodecBitsWrongFalsely : Prop := codecBitsRow.holds Tryd.pinned (OpenSpec.ofChange codecBitsWrong)

/-- 'glacierlaw1.CodecGrows': WHATEVER THE INPUT: true; the input reads as it did. -/
def codecGrowsSpec : ChangeSpec := { name := "codecGrows", fn := fun _ => fun
  | [d1, d2] => { results := [.lit (.bool true)], args := [d1, d2] }
  | _ => none }
def codecGrowsRow : OpenClaim := { program := "ytjhafhfneedmjaadoor", sum := "edafda83eac26f09a109845647f3fe256e12543d794e3646766b8d8cf9500550", func := "glacier/glacierlaw1.CodecGrows", spec := "codecGrows", named := ["glacier/codec.ofLow", "glacier/codec.ofHigh"], apart := false, laid := [("glacier/codec.ofLow", laid_glacier_codec_ofLow), ("glacier/codec.ofHigh", laid_glacier_codec_ofHigh)] }
def CodecGrowsSaid : Prop := codecGrowsRow.holds Tryd.pinned (OpenSpec.ofChange codecGrowsSpec)

/-- ITS FALSE NEIGHBOUR: 'it returns false'. Refute it at one input. -/
def codecGrowsWrong : ChangeSpec := { name := "codecGrows", fn := fun _ => fun
  | [d1, d2] => { results := [.lit (.bool false)], args := [d1, d2] }
  | _ => none }
def CodecGrowsWrongFalsely : Prop := codecGrowsRow.holds Tryd.pinned (OpenSpec.ofChange codecGrowsWrong)

/-- 'glacierlaw1.CodecNests': WHATEVER THE INPUT: true; the input reads as it did. -/
def codecNestsSpec : ChangeSpec := { name := "codecNests", fn := fun _ => fun
  | [d1, d2] => { results := [.lit (.bool true)], args := [d1, d2] }
  | _ => none }
def codecNestsRow : OpenClaim := { program := "ytjhafhfneedmjaadoor", sum := "edafda83eac26f09a109845647f3fe256e12543d794e3646766b8d8cf9500550", func := "glacier/glacierlaw1.CodecNests", spec := "codecNests", named := ["glacier/codec.ofLow", "glacier/codec.ofHigh"], apart := false, laid := [("glacier/codec.ofLow", laid_glacier_codec_ofLow), ("glacier/codec.ofHigh", laid_glacier_codec_ofHigh)] }
def CodecNestsSaid : Prop := codecNestsRow.holds Tryd.pinned (OpenSpec.ofChange codecNestsSpec)

/-- ITS FALSE NEIGHBOUR: 'it returns false'. Refute it at one input. -/
def codecNestsWrong : ChangeSpec := { name := "codecNests", fn := fun _ => fun
  | [d1, d2] => { results := [.lit (.bool false)], args := [d1, d2] }
  | _ => none }
def CodecNestsWrongFalsely : Prop := codecNestsRow.holds Tryd.pinned (OpenSpec.ofChange codecNestsWrong)

/- THE SECOND FORM. 'bulk': how many values and letters a reading holds, each counted each time it is reached (what is shared counts as often as it is met; a slice's spare places count too). A statement '..UptoSaid' is the law's where the arguments, and the package variables that the reading takes, are together of bulk at most 1048576: NARROWER than '..Said'. Prove '..Said' where nothing that the law and all that it calls make is longer than what came in: it says more and counts as full. Else prove '..UptoSaid'. A law counts once. -/
mutual
def uptoBulk {H : Type} : DataW H → Nat
  | .lit (.string bytes) => bytes.length + 1
  | .lit _ => 1
  | .nil => 1
  | .ptr d => uptoBulk d + 1
  | .slice elems spare => uptoBulkAll elems + uptoBulkAll spare + 1
  | .agg parts => uptoBulkAll parts + 1
  | .iface _ d => uptoBulk d + 1
  | .map entries => uptoBulkEntries entries + 1
  | .held _ => 1
def uptoBulkAll {H : Type} : List (DataW H) → Nat
  | [] => 0
  | d :: r => uptoBulk d + uptoBulkAll r
def uptoBulkEntries {H : Type} : List (Lit × DataW H) → Nat
  | [] => 0
  | x :: r => uptoBulkEntry x + uptoBulkEntries r
def uptoBulkEntry {H : Type} : Lit × DataW H → Nat
  | (.string bytes, d) => bytes.length + uptoBulk d + 1
  | (_, d) => uptoBulk d + 1
 end
def uptoSmall : (H : Type) → List (DataW H) → Bool := fun _ ds => decide (uptoBulkAll ds ≤ 1048576)
def OpenSpec.upto (s : _root_.Go.ChangeSpec) : _root_.Go.OpenSpec := { _root_.Go.OpenSpec.ofChange s with cond := some uptoSmall }

/-- 'glacierlaw1.CodecSums', WHERE WHAT IT READS IS OF BULK AT MOST 1048576: true; the input reads as it did. -/
def codecSumsUptoRow : OpenClaim := { program := "ytjhafhfneedmjaadoor", sum := "edafda83eac26f09a109845647f3fe256e12543d794e3646766b8d8cf9500550", func := "glacier/glacierlaw1.CodecSums", spec := "codecSums", named := ["glacier/codec.ofLow", "glacier/codec.ofHigh"], apart := false, laid := [("glacier/codec.ofLow", laid_glacier_codec_ofLow), ("glacier/codec.ofHigh", laid_glacier_codec_ofHigh)], narrowed := true }
def CodecSumsUptoSaid : Prop := codecSumsUptoRow.holds Tryd.pinned (OpenSpec.upto codecSumsSpec)

/-- 'glacierlaw1.CodecReads', WHERE WHAT IT READS IS OF BULK AT MOST 1048576: true; the input reads as it did. -/
def codecReadsUptoRow : OpenClaim := { program := "ytjhafhfneedmjaadoor", sum := "edafda83eac26f09a109845647f3fe256e12543d794e3646766b8d8cf9500550", func := "glacier/glacierlaw1.CodecReads", spec := "codecReads", named := ["glacier/codec.ofLow", "glacier/codec.ofHigh"], apart := false, laid := [("glacier/codec.ofLow", laid_glacier_codec_ofLow), ("glacier/codec.ofHigh", laid_glacier_codec_ofHigh)], narrowed := true }
def CodecReadsUptoSaid : Prop := codecReadsUptoRow.holds Tryd.pinned (OpenSpec.upto codecReadsSpec)

/-- 'glacierlaw1.CodecWrites', WHERE WHAT IT READS IS OF BULK AT MOST 1048576: true; the input reads as it did. -/
def codecWritesUptoRow : OpenClaim := { program := "ytjhafhfneedmjaadoor", sum := "edafda83eac26f09a109845647f3fe256e12543d794e3646766b8d8cf9500550", func := "glacier/glacierlaw1.CodecWrites", spec := "codecWrites", named := ["glacier/codec.ofLow", "glacier/codec.ofHigh"], apart := false, laid := [("glacier/codec.ofLow", laid_glacier_codec_ofLow), ("glacier/codec.ofHigh", laid_glacier_codec_ofHigh)], narrowed := true }
def CodecWritesUptoSaid : Prop := codecWritesUptoRow.holds Tryd.pinned (OpenSpec.upto codecWritesSpec)

/-- 'glacierlaw1.CodecBack', WHERE WHAT IT READS IS OF BULK AT MOST 1048576: true; the input reads as it did. -/
def codecBackUptoRow : OpenClaim := { program := "ytjhafhfneedmjaadoor", sum := "edafda83eac26f09a109845647f3fe256e12543d794e3646766b8d8cf9500550", func := "glacier/glacierlaw1.CodecBack", spec := "codecBack", named := ["glacier/codec.ofLow", "glacier/codec.ofHigh"], apart := false, laid := [("glacier/codec.ofLow", laid_glacier_codec_ofLow), ("glacier/codec.ofHigh", laid_glacier_codec_ofHigh)], narrowed := true }
def CodecBackUptoSaid : Prop := codecBackUptoRow.holds Tryd.pinned (OpenSpec.upto codecBackSpec)

/-- 'glacierlaw1.CodecFronts', WHERE WHAT IT READS IS OF BULK AT MOST 1048576: true; the input reads as it did. -/
def codecFrontsUptoRow : OpenClaim := { program := "ytjhafhfneedmjaadoor", sum := "edafda83eac26f09a109845647f3fe256e12543d794e3646766b8d8cf9500550", func := "glacier/glacierlaw1.CodecFronts", spec := "codecFronts", named := ["glacier/codec.ofLow", "glacier/codec.ofHigh"], apart := false, laid := [("glacier/codec.ofLow", laid_glacier_codec_ofLow), ("glacier/codec.ofHigh", laid_glacier_codec_ofHigh)], narrowed := true }
def CodecFrontsUptoSaid : Prop := codecFrontsUptoRow.holds Tryd.pinned (OpenSpec.upto codecFrontsSpec)

/-- 'glacierlaw1.CodecBits', WHERE WHAT IT READS IS OF BULK AT MOST 1048576: true; the input reads as it did. -/
def codecBitsUptoRow : OpenClaim := { program := "ytjhafhfneedmjaadoor", sum := "edafda83eac26f09a109845647f3fe256e12543d794e3646766b8d8cf9500550", func := "glacier/glacierlaw1.CodecBits", spec := "codecBits", named := ["glacier/codec.ofLow", "glacier/codec.ofHigh"], apart := false, laid := [("glacier/codec.ofLow", laid_glacier_codec_ofLow), ("glacier/codec.ofHigh", laid_glacier_codec_ofHigh)], narrowed := true }
def CodecBitsUptoSaid : Prop := codecBitsUptoRow.holds Tryd.pinned (OpenSpec.upto codecBitsSpec)

/-- 'glacierlaw1.CodecGrows', WHERE WHAT IT READS IS OF BULK AT MOST 1048576: true; the input reads as it did. -/
def codecGrowsUptoRow : OpenClaim := { program := "ytjhafhfneedmjaadoor", sum := "edafda83eac26f09a109845647f3fe256e12543d794e3646766b8d8cf9500550", func := "glacier/glacierlaw1.CodecGrows", spec := "codecGrows", named := ["glacier/codec.ofLow", "glacier/codec.ofHigh"], apart := false, laid := [("glacier/codec.ofLow", laid_glacier_codec_ofLow), ("glacier/codec.ofHigh", laid_glacier_codec_ofHigh)], narrowed := true }
def CodecGrowsUptoSaid : Prop := codecGrowsUptoRow.holds Tryd.pinned (OpenSpec.upto codecGrowsSpec)

/-- 'glacierlaw1.CodecNests', WHERE WHAT IT READS IS OF BULK AT MOST 1048576: true; the input reads as it did. -/
def codecNestsUptoRow : OpenClaim := { program := "ytjhafhfneedmjaadoor", sum := "edafda83eac26f09a109845647f3fe256e12543d794e3646766b8d8cf9500550", func := "glacier/glacierlaw1.CodecNests", spec := "codecNests", named := ["glacier/codec.ofLow", "glacier/codec.ofHigh"], apart := false, laid := [("glacier/codec.ofLow", laid_glacier_codec_ofLow), ("glacier/codec.ofHigh", laid_glacier_codec_ofHigh)], narrowed := true }
def CodecNestsUptoSaid : Prop := codecNestsUptoRow.holds Tryd.pinned (OpenSpec.upto codecNestsSpec)

end Rows
end Go.Proofs.YtjhafhfneedmjaaDoor
