/-
  DERIVED. GIVEN WITH THE SEED: THE CARDS: each row of YthmjpnllphihgaaDoorRows.lean that lists a variable, with what it lists TIED to the program's text (the seventh form; the later family's looks); each row that meets fmt, with fmt's text TOLD by the authors' own Lean function (tested against real Go, not proved from fmt's source: count such statements apart). THE CARD IS WHAT COUNTS. Prove the row's statement (the work); the ties are given (YthmjpnllphihgaaDoorTie.lean); close each card by the builder's one call (the guide's Derived/Test/ToyasCard.lean, 'card_holds'). Laid BY PROGRAM, IN A SANDBOX (cutbox-door.mjs). By AI agents, Wed Nov 11 2026. No macro, syntax, notation, axiom, sorry.
-/
import Derived.Test.YthmjpnllphihgaaDoorRows
import GoSem.ClaimSeven
namespace Go.Proofs.YthmjpnllphihgaaDoor
namespace Rows

/-- THE TIED CARD OF 'glacierlaw7.SstBuilds'. -/
def sstBuildsCard : Claim7 := { stood := { row := sstBuildsRow, standIns := [], harness := (true, "e9b1188a5eb3f747a6902454b12d8ac4461d74c5ea8cd723b1f6c1569ae84976"), looks := false }, kinds := [], alts := [], laidByText := true, laidKinds := [.data, .data], laidTests := true, laidLooks := .later }
def SstBuildsCardSaid : Prop := Claim7.holds Tryd.pinned (.plain (OpenSpec.ofChange sstBuildsSpec)) sstBuildsCard

/-- THE SECOND FORM's CARD OF 'glacierlaw7.SstBuilds'. -/
def sstBuildsUptoCard : Claim7 := { stood := { row := sstBuildsUptoRow, standIns := [], harness := (true, "e9b1188a5eb3f747a6902454b12d8ac4461d74c5ea8cd723b1f6c1569ae84976"), looks := false }, kinds := [], alts := [], laidByText := true, laidKinds := [.data, .data], laidTests := true, laidLooks := .later }
def SstBuildsUptoCardSaid : Prop := Claim7.holds Tryd.pinned (.plain (OpenSpec.upto sstBuildsSpec)) sstBuildsUptoCard
end Rows
end Go.Proofs.YthmjpnllphihgaaDoor
