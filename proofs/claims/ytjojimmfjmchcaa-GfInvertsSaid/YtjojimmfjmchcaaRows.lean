/-
  No cell of these rows narrows 'for every input' (looked for: loops, veiled, ifaces, maps, wideKeys, modest, calm, conditions, laid).
  DERIVED. THE GIVEN ROWS OF THIS SEAT. 8 by the template 'for every input the law returns true; each argument reads behind the call as it read before'; 0 by the template 'total and deterministic' (their statements: YtjojimmfjmchcaaTotals.lean).
  GIVEN WITH THE SEED: the statements are not yours to turn. If you find one false, say at which input.
  Laid BY PROGRAM, IN A SANDBOX (cutbox-rows.mjs): the forced cells as the released guide's own fill.sh prints them over the translation 13f8180843a71640… (all of the seat's roots in one cut). By AI agents, Wed Nov 11 2026. No macro, syntax, notation, axiom, sorry.
-/
import Derived.Test.YtjojimmfjmchcaaChecked
import GoSem.Claim
import GoSem.ClaimJoined
import GoSem.ClaimMapViews
import Derived.JoinedTies
import Derived.KernelRfl
namespace Go.Proofs.Ytjojimmfjmchcaa
/- THE CELL 'sum', in the pinned program and in every row, IS THE sha256 OF THE DUMP (.gsa) THAT YtjojimmfjmchcaaProg.lean LOADS. Nothing in Lean hashes anything: it is a label: what it is worth is what the hold of that sum in a sandbox is worth. -/
noncomputable def Try.pinned : Pinned := { name := "ytjojimmfjmchcaa", sum := "13f8180843a71640e8de364fe4288074b89fea614219017f723a09873fff4a0f", checked := Try.checked }
namespace Rows
def none {H : Type} : Left H := { results := [], args := [] }

/-- 'glacierlaw11.GfReckons': WHATEVER THE INPUT: true; the input reads as it did. -/
def gfReckonsSpec : ChangeSpec := { name := "gfReckons", fn := fun _ => fun
  | [d1, d2, d3] => { results := [.lit (.bool true)], args := [d1, d2, d3] }
  | _ => none }
def gfReckonsRow : OpenClaim := { program := "ytjojimmfjmchcaa", sum := "13f8180843a71640e8de364fe4288074b89fea614219017f723a09873fff4a0f", func := "glacier/glacierlaw11.GfReckons", spec := "gfReckons", apart := false }
def GfReckonsSaid : Prop := gfReckonsRow.holds Try.pinned (OpenSpec.ofChange gfReckonsSpec)

/-- ITS FALSE NEIGHBOUR: 'it returns false'. Refute it at one input. -/
def gfReckonsWrong : ChangeSpec := { name := "gfReckons", fn := fun _ => fun
  | [d1, d2, d3] => { results := [.lit (.bool false)], args := [d1, d2, d3] }
  | _ => none }
def GfReckonsWrongFalsely : Prop := gfReckonsRow.holds Try.pinned (OpenSpec.ofChange gfReckonsWrong)

/-- 'glacierlaw11.GfMakes': WHATEVER THE INPUT: true; the input reads as it did. -/
def gfMakesSpec : ChangeSpec := { name := "gfMakes", fn := fun _ => fun
  | [d1, d2, d3, d4] => { results := [.lit (.bool true)], args := [d1, d2, d3, d4] }
  | _ => none }
def gfMakesRow : OpenClaim := { program := "ytjojimmfjmchcaa", sum := "13f8180843a71640e8de364fe4288074b89fea614219017f723a09873fff4a0f", func := "glacier/glacierlaw11.GfMakes", spec := "gfMakes", unfollowed := true, recurses := true, apart := false }
def GfMakesSaid : Prop := gfMakesRow.holds Try.pinned (OpenSpec.ofChange gfMakesSpec)

/-- ITS FALSE NEIGHBOUR: 'it returns false'. Refute it at one input. -/
def gfMakesWrong : ChangeSpec := { name := "gfMakes", fn := fun _ => fun
  | [d1, d2, d3, d4] => { results := [.lit (.bool false)], args := [d1, d2, d3, d4] }
  | _ => none }
def GfMakesWrongFalsely : Prop := gfMakesRow.holds Try.pinned (OpenSpec.ofChange gfMakesWrong)

/-- 'glacierlaw11.GfMatrices': WHATEVER THE INPUT: true; the input reads as it did. -/
def gfMatricesSpec : ChangeSpec := { name := "gfMatrices", fn := fun _ => fun
  | [d1, d2, d3, d4] => { results := [.lit (.bool true)], args := [d1, d2, d3, d4] }
  | _ => none }
def gfMatricesRow : OpenClaim := { program := "ytjojimmfjmchcaa", sum := "13f8180843a71640e8de364fe4288074b89fea614219017f723a09873fff4a0f", func := "glacier/glacierlaw11.GfMatrices", spec := "gfMatrices", unfollowed := true, recurses := true, apart := false }
def GfMatricesSaid : Prop := gfMatricesRow.holds Try.pinned (OpenSpec.ofChange gfMatricesSpec)

/-- ITS FALSE NEIGHBOUR: 'it returns false'. Refute it at one input. -/
def gfMatricesWrong : ChangeSpec := { name := "gfMatrices", fn := fun _ => fun
  | [d1, d2, d3, d4] => { results := [.lit (.bool false)], args := [d1, d2, d3, d4] }
  | _ => none }
def GfMatricesWrongFalsely : Prop := gfMatricesRow.holds Try.pinned (OpenSpec.ofChange gfMatricesWrong)

/-- 'glacierlaw11.GfLaws': WHATEVER THE INPUT: true; the input reads as it did. -/
def gfLawsSpec : ChangeSpec := { name := "gfLaws", fn := fun _ => fun
  | [d1, d2, d3] => { results := [.lit (.bool true)], args := [d1, d2, d3] }
  | _ => none }
def gfLawsRow : OpenClaim := { program := "ytjojimmfjmchcaa", sum := "13f8180843a71640e8de364fe4288074b89fea614219017f723a09873fff4a0f", func := "glacier/glacierlaw11.GfLaws", spec := "gfLaws", apart := false }
def GfLawsSaid : Prop := gfLawsRow.holds Try.pinned (OpenSpec.ofChange gfLawsSpec)

/-- ITS FALSE NEIGHBOUR: 'it returns false'. Refute it at one input. -/
def gfLawsWrong : ChangeSpec := { name := "gfLaws", fn := fun _ => fun
  | [d1, d2, d3] => { results := [.lit (.bool false)], args := [d1, d2, d3] }
  | _ => none }
def GfLawsWrongFalsely : Prop := gfLawsRow.holds Try.pinned (OpenSpec.ofChange gfLawsWrong)

/-- 'glacierlaw11.GfInverts': WHATEVER THE INPUT: true; the input reads as it did. -/
def gfInvertsSpec : ChangeSpec := { name := "gfInverts", fn := fun _ => fun
  | [d1, d2, d3] => { results := [.lit (.bool true)], args := [d1, d2, d3] }
  | _ => none }
def gfInvertsRow : OpenClaim := { program := "ytjojimmfjmchcaa", sum := "13f8180843a71640e8de364fe4288074b89fea614219017f723a09873fff4a0f", func := "glacier/glacierlaw11.GfInverts", spec := "gfInverts", unfollowed := true, recurses := true, apart := false }
def GfInvertsSaid : Prop := gfInvertsRow.holds Try.pinned (OpenSpec.ofChange gfInvertsSpec)

/-- ITS FALSE NEIGHBOUR: 'it returns false'. Refute it at one input. -/
def gfInvertsWrong : ChangeSpec := { name := "gfInverts", fn := fun _ => fun
  | [d1, d2, d3] => { results := [.lit (.bool false)], args := [d1, d2, d3] }
  | _ => none }
def GfInvertsWrongFalsely : Prop := gfInvertsRow.holds Try.pinned (OpenSpec.ofChange gfInvertsWrong)

/-- 'glacierlaw11.GfOwn': WHATEVER THE INPUT: true; the input reads as it did. -/
def gfOwnSpec : ChangeSpec := { name := "gfOwn", fn := fun _ => fun
  | [d1, d2] => { results := [.lit (.bool true)], args := [d1, d2] }
  | _ => none }
def gfOwnRow : OpenClaim := { program := "ytjojimmfjmchcaa", sum := "13f8180843a71640e8de364fe4288074b89fea614219017f723a09873fff4a0f", func := "glacier/glacierlaw11.GfOwn", spec := "gfOwn", unfollowed := true, recurses := true, apart := false }
def GfOwnSaid : Prop := gfOwnRow.holds Try.pinned (OpenSpec.ofChange gfOwnSpec)

/-- ITS FALSE NEIGHBOUR: 'it returns false'. Refute it at one input. -/
def gfOwnWrong : ChangeSpec := { name := "gfOwn", fn := fun _ => fun
  | [d1, d2] => { results := [.lit (.bool false)], args := [d1, d2] }
  | _ => none }
def GfOwnWrongFalsely : Prop := gfOwnRow.holds Try.pinned (OpenSpec.ofChange gfOwnWrong)

/-- 'glacierlaw11.GfPowers': WHATEVER THE INPUT: true; the input reads as it did. -/
def gfPowersSpec : ChangeSpec := { name := "gfPowers", fn := fun _ => fun
  | [d1, d2, d3] => { results := [.lit (.bool true)], args := [d1, d2, d3] }
  | _ => none }
def gfPowersRow : OpenClaim := { program := "ytjojimmfjmchcaa", sum := "13f8180843a71640e8de364fe4288074b89fea614219017f723a09873fff4a0f", func := "glacier/glacierlaw11.GfPowers", spec := "gfPowers", apart := false }
def GfPowersSaid : Prop := gfPowersRow.holds Try.pinned (OpenSpec.ofChange gfPowersSpec)

/-- ITS FALSE NEIGHBOUR: 'it returns false'. Refute it at one input. -/
def gfPowersWrong : ChangeSpec := { name := "gfPowers", fn := fun _ => fun
  | [d1, d2, d3] => { results := [.lit (.bool false)], args := [d1, d2, d3] }
  | _ => none }
def GfPowersWrongFalsely : Prop := gfPowersRow.holds Try.pinned (OpenSpec.ofChange gfPowersWrong)

/-- 'glacierlaw11.GfSolves': WHATEVER THE INPUT: true; the input reads as it did. -/
def gfSolvesSpec : ChangeSpec := { name := "gfSolves", fn := fun _ => fun
  | [d1, d2] => { results := [.lit (.bool true)], args := [d1, d2] }
  | _ => none }
def gfSolvesRow : OpenClaim := { program := "ytjojimmfjmchcaa", sum := "13f8180843a71640e8de364fe4288074b89fea614219017f723a09873fff4a0f", func := "glacier/glacierlaw11.GfSolves", spec := "gfSolves", unfollowed := true, recurses := true, apart := false }
def GfSolvesSaid : Prop := gfSolvesRow.holds Try.pinned (OpenSpec.ofChange gfSolvesSpec)

/-- ITS FALSE NEIGHBOUR: 'it returns false'. Refute it at one input. -/
def gfSolvesWrong : ChangeSpec := { name := "gfSolves", fn := fun _ => fun
  | [d1, d2] => { results := [.lit (.bool false)], args := [d1, d2] }
  | _ => none }
def GfSolvesWrongFalsely : Prop := gfSolvesRow.holds Try.pinned (OpenSpec.ofChange gfSolvesWrong)

/- THE SECOND FORM. 'bulk': how many values and letters a reading holds, each counted each time it is reached (what is shared counts as often as it is met; a slice's spare places count too). A statement '..UptoSaid' is the law's where the arguments, and the package variables that the reading takes, are together of bulk at most 1048576: NARROWER than '..Said'. Prove '..Said' where nothing that the law and all that it calls make is longer than what came in: it says more and counts as full. Else prove '..UptoSaid'. A law counts once. -/
mutual
def uptoBulk {H : Type} : DataW H → Nat
  | .lit (.string bytes) => bytes.length + 1
  | .lit _ => 1
  | .nil => 1
  | .ptr d => uptoBulk d + 1
  | .slice elems spare => uptoBulkAll elems + uptoBulkAll spare + 1
  | .agg parts => uptoBulkAll parts + 1
  | .iface _ d => uptoBulk d + 1
  | .map entries => uptoBulkEntries entries + 1
  | .held _ => 1
def uptoBulkAll {H : Type} : List (DataW H) → Nat
  | [] => 0
  | d :: r => uptoBulk d + uptoBulkAll r
def uptoBulkEntries {H : Type} : List (Lit × DataW H) → Nat
  | [] => 0
  | x :: r => uptoBulkEntry x + uptoBulkEntries r
def uptoBulkEntry {H : Type} : Lit × DataW H → Nat
  | (.string bytes, d) => bytes.length + uptoBulk d + 1
  | (_, d) => uptoBulk d + 1
 end
def uptoSmall : (H : Type) → List (DataW H) → Bool := fun _ ds => decide (uptoBulkAll ds ≤ 1048576)
def OpenSpec.upto (s : _root_.Go.ChangeSpec) : _root_.Go.OpenSpec := { _root_.Go.OpenSpec.ofChange s with cond := some uptoSmall }

/-- 'glacierlaw11.GfReckons', WHERE WHAT IT READS IS OF BULK AT MOST 1048576: true; the input reads as it did. -/
def gfReckonsUptoRow : OpenClaim := { program := "ytjojimmfjmchcaa", sum := "13f8180843a71640e8de364fe4288074b89fea614219017f723a09873fff4a0f", func := "glacier/glacierlaw11.GfReckons", spec := "gfReckons", apart := false, narrowed := true }
def GfReckonsUptoSaid : Prop := gfReckonsUptoRow.holds Try.pinned (OpenSpec.upto gfReckonsSpec)

/-- 'glacierlaw11.GfMakes', WHERE WHAT IT READS IS OF BULK AT MOST 1048576: true; the input reads as it did. -/
def gfMakesUptoRow : OpenClaim := { program := "ytjojimmfjmchcaa", sum := "13f8180843a71640e8de364fe4288074b89fea614219017f723a09873fff4a0f", func := "glacier/glacierlaw11.GfMakes", spec := "gfMakes", unfollowed := true, recurses := true, apart := false, narrowed := true }
def GfMakesUptoSaid : Prop := gfMakesUptoRow.holds Try.pinned (OpenSpec.upto gfMakesSpec)

/-- 'glacierlaw11.GfMatrices', WHERE WHAT IT READS IS OF BULK AT MOST 1048576: true; the input reads as it did. -/
def gfMatricesUptoRow : OpenClaim := { program := "ytjojimmfjmchcaa", sum := "13f8180843a71640e8de364fe4288074b89fea614219017f723a09873fff4a0f", func := "glacier/glacierlaw11.GfMatrices", spec := "gfMatrices", unfollowed := true, recurses := true, apart := false, narrowed := true }
def GfMatricesUptoSaid : Prop := gfMatricesUptoRow.holds Try.pinned (OpenSpec.upto gfMatricesSpec)

/-- 'glacierlaw11.GfLaws', WHERE WHAT IT READS IS OF BULK AT MOST 1048576: true; the input reads as it did. -/
def gfLawsUptoRow : OpenClaim := { program := "ytjojimmfjmchcaa", sum := "13f8180843a71640e8de364fe4288074b89fea614219017f723a09873fff4a0f", func := "glacier/glacierlaw11.GfLaws", spec := "gfLaws", apart := false, narrowed := true }
def GfLawsUptoSaid : Prop := gfLawsUptoRow.holds Try.pinned (OpenSpec.upto gfLawsSpec)

/-- 'glacierlaw11.GfInverts', WHERE WHAT IT READS IS OF BULK AT MOST 1048576: true; the input reads as it did. -/
def gfInvertsUptoRow : OpenClaim := { program := "ytjojimmfjmchcaa", sum := "13f8180843a71640e8de364fe4288074b89fea614219017f723a09873fff4a0f", func := "glacier/glacierlaw11.GfInverts", spec := "gfInverts", unfollowed := true, recurses := true, apart := false, narrowed := true }
def GfInvertsUptoSaid : Prop := gfInvertsUptoRow.holds Try.pinned (OpenSpec.upto gfInvertsSpec)

/-- 'glacierlaw11.GfOwn', WHERE WHAT IT READS IS OF BULK AT MOST 1048576: true; the input reads as it did. -/
def gfOwnUptoRow : OpenClaim := { program := "ytjojimmfjmchcaa", sum := "13f8180843a71640e8de364fe4288074b89fea614219017f723a09873fff4a0f", func := "glacier/glacierlaw11.GfOwn", spec := "gfOwn", unfollowed := true, recurses := true, apart := false, narrowed := true }
def GfOwnUptoSaid : Prop := gfOwnUptoRow.holds Try.pinned (OpenSpec.upto gfOwnSpec)

/-- 'glacierlaw11.GfPowers', WHERE WHAT IT READS IS OF BULK AT MOST 1048576: true; the input reads as it did. -/
def gfPowersUptoRow : OpenClaim := { program := "ytjojimmfjmchcaa", sum := "13f8180843a71640e8de364fe4288074b89fea614219017f723a09873fff4a0f", func := "glacier/glacierlaw11.GfPowers", spec := "gfPowers", apart := false, narrowed := true }
def GfPowersUptoSaid : Prop := gfPowersUptoRow.holds Try.pinned (OpenSpec.upto gfPowersSpec)

/-- 'glacierlaw11.GfSolves', WHERE WHAT IT READS IS OF BULK AT MOST 1048576: true; the input reads as it did. -/
def gfSolvesUptoRow : OpenClaim := { program := "ytjojimmfjmchcaa", sum := "13f8180843a71640e8de364fe4288074b89fea614219017f723a09873fff4a0f", func := "glacier/glacierlaw11.GfSolves", spec := "gfSolves", unfollowed := true, recurses := true, apart := false, narrowed := true }
def GfSolvesUptoSaid : Prop := gfSolvesUptoRow.holds Try.pinned (OpenSpec.upto gfSolvesSpec)

end Rows
end Go.Proofs.Ytjojimmfjmchcaa
