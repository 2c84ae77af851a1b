/-
  DERIVED. GIVEN WITH THE SEED: THE CARDS: each row of YtjhafhfneedmjaaDoorRows.lean that lists a variable, with what it lists TIED to the program's text (the seventh form; the later family's looks); each row that meets fmt, with fmt's text TOLD by the authors' own Lean function (tested against real Go, not proved from fmt's source: count such statements apart). THE CARD IS WHAT COUNTS. Prove the row's statement (the work); the ties are given (YtjhafhfneedmjaaDoorTie.lean); close each card by the builder's one call (the guide's Derived/Test/ToyasCard.lean, 'card_holds'). Laid BY PROGRAM, IN A SANDBOX (cutbox-door.mjs). By AI agents, Wed Nov 11 2026. No macro, syntax, notation, axiom, sorry.
-/
import Derived.Test.YtjhafhfneedmjaaDoorRows
import GoSem.ClaimSeven
namespace Go.Proofs.YtjhafhfneedmjaaDoor
namespace Rows

/-- THE TIED CARD OF 'glacierlaw1.CodecSums'. -/
def codecSumsCard : Claim7 := { stood := { row := codecSumsRow, standIns := [], harness := (true, "db21d9f0c92558a36c1406a0d18603b5ddbd2862f024b39bb55d8f671894ade3"), looks := false }, kinds := [], alts := [], laidByText := true, laidKinds := [.data, .data], laidTests := true, laidLooks := .later }
def CodecSumsCardSaid : Prop := Claim7.holds Tryd.pinned (.plain (OpenSpec.ofChange codecSumsSpec)) codecSumsCard

/-- THE TIED CARD OF 'glacierlaw1.CodecReads'. -/
def codecReadsCard : Claim7 := { stood := { row := codecReadsRow, standIns := [], harness := (true, "db21d9f0c92558a36c1406a0d18603b5ddbd2862f024b39bb55d8f671894ade3"), looks := false }, kinds := [], alts := [], laidByText := true, laidKinds := [.data, .data], laidTests := true, laidLooks := .later }
def CodecReadsCardSaid : Prop := Claim7.holds Tryd.pinned (.plain (OpenSpec.ofChange codecReadsSpec)) codecReadsCard

/-- THE TIED CARD OF 'glacierlaw1.CodecWrites'. -/
def codecWritesCard : Claim7 := { stood := { row := codecWritesRow, standIns := [], harness := (true, "db21d9f0c92558a36c1406a0d18603b5ddbd2862f024b39bb55d8f671894ade3"), looks := false }, kinds := [], alts := [], laidByText := true, laidKinds := [.data, .data], laidTests := true, laidLooks := .later }
def CodecWritesCardSaid : Prop := Claim7.holds Tryd.pinned (.plain (OpenSpec.ofChange codecWritesSpec)) codecWritesCard

/-- THE TIED CARD OF 'glacierlaw1.CodecBack'. -/
def codecBackCard : Claim7 := { stood := { row := codecBackRow, standIns := [], harness := (true, "db21d9f0c92558a36c1406a0d18603b5ddbd2862f024b39bb55d8f671894ade3"), looks := false }, kinds := [], alts := [], laidByText := true, laidKinds := [.data, .data], laidTests := true, laidLooks := .later }
def CodecBackCardSaid : Prop := Claim7.holds Tryd.pinned (.plain (OpenSpec.ofChange codecBackSpec)) codecBackCard

/-- THE TIED CARD OF 'glacierlaw1.CodecFronts'. -/
def codecFrontsCard : Claim7 := { stood := { row := codecFrontsRow, standIns := [], harness := (true, "db21d9f0c92558a36c1406a0d18603b5ddbd2862f024b39bb55d8f671894ade3"), looks := false }, kinds := [], alts := [], laidByText := true, laidKinds := [.data, .data], laidTests := true, laidLooks := .later }
def CodecFrontsCardSaid : Prop := Claim7.holds Tryd.pinned (.plain (OpenSpec.ofChange codecFrontsSpec)) codecFrontsCard

/-- THE TIED CARD OF 'glacierlaw1.CodecBits'. -/
def codecBitsCard : Claim7 := { stood := { row := codecBitsRow, standIns := [], harness := (true, "db21d9f0c92558a36c1406a0d18603b5ddbd2862f024b39bb55d8f671894ade3"), looks := false }, kinds := [], alts := [], laidByText := true, laidKinds := [.data, .data], laidTests := true, laidLooks := .later }
def CodecBitsCardSaid : Prop := Claim7.holds Tryd.pinned (.plain (OpenSpec.ofChange codecBitsSpec)) codecBitsCard

/-- THE TIED CARD OF 'glacierlaw1.CodecGrows'. -/
def codecGrowsCard : Claim7 := { stood := { row := codecGrowsRow, standIns := [], harness := (true, "db21d9f0c92558a36c1406a0d18603b5ddbd2862f024b39bb55d8f671894ade3"), looks := false }, kinds := [], alts := [], laidByText := true, laidKinds := [.data, .data], laidTests := true, laidLooks := .later }
def CodecGrowsCardSaid : Prop := Claim7.holds Tryd.pinned (.plain (OpenSpec.ofChange codecGrowsSpec)) codecGrowsCard

/-- THE TIED CARD OF 'glacierlaw1.CodecNests'. -/
def codecNestsCard : Claim7 := { stood := { row := codecNestsRow, standIns := [], harness := (true, "db21d9f0c92558a36c1406a0d18603b5ddbd2862f024b39bb55d8f671894ade3"), looks := false }, kinds := [], alts := [], laidByText := true, laidKinds := [.data, .data], laidTests := true, laidLooks := .later }
def CodecNestsCardSaid : Prop := Claim7.holds Tryd.pinned (.plain (OpenSpec.ofChange codecNestsSpec)) codecNestsCard

/-- THE SECOND FORM's CARD OF 'glacierlaw1.CodecSums'. -/
def codecSumsUptoCard : Claim7 := { stood := { row := codecSumsUptoRow, standIns := [], harness := (true, "db21d9f0c92558a36c1406a0d18603b5ddbd2862f024b39bb55d8f671894ade3"), looks := false }, kinds := [], alts := [], laidByText := true, laidKinds := [.data, .data], laidTests := true, laidLooks := .later }
def CodecSumsUptoCardSaid : Prop := Claim7.holds Tryd.pinned (.plain (OpenSpec.upto codecSumsSpec)) codecSumsUptoCard

/-- THE SECOND FORM's CARD OF 'glacierlaw1.CodecReads'. -/
def codecReadsUptoCard : Claim7 := { stood := { row := codecReadsUptoRow, standIns := [], harness := (true, "db21d9f0c92558a36c1406a0d18603b5ddbd2862f024b39bb55d8f671894ade3"), looks := false }, kinds := [], alts := [], laidByText := true, laidKinds := [.data, .data], laidTests := true, laidLooks := .later }
def CodecReadsUptoCardSaid : Prop := Claim7.holds Tryd.pinned (.plain (OpenSpec.upto codecReadsSpec)) codecReadsUptoCard

/-- THE SECOND FORM's CARD OF 'glacierlaw1.CodecWrites'. -/
def codecWritesUptoCard : Claim7 := { stood := { row := codecWritesUptoRow, standIns := [], harness := (true, "db21d9f0c92558a36c1406a0d18603b5ddbd2862f024b39bb55d8f671894ade3"), looks := false }, kinds := [], alts := [], laidByText := true, laidKinds := [.data, .data], laidTests := true, laidLooks := .later }
def CodecWritesUptoCardSaid : Prop := Claim7.holds Tryd.pinned (.plain (OpenSpec.upto codecWritesSpec)) codecWritesUptoCard

/-- THE SECOND FORM's CARD OF 'glacierlaw1.CodecBack'. -/
def codecBackUptoCard : Claim7 := { stood := { row := codecBackUptoRow, standIns := [], harness := (true, "db21d9f0c92558a36c1406a0d18603b5ddbd2862f024b39bb55d8f671894ade3"), looks := false }, kinds := [], alts := [], laidByText := true, laidKinds := [.data, .data], laidTests := true, laidLooks := .later }
def CodecBackUptoCardSaid : Prop := Claim7.holds Tryd.pinned (.plain (OpenSpec.upto codecBackSpec)) codecBackUptoCard

/-- THE SECOND FORM's CARD OF 'glacierlaw1.CodecFronts'. -/
def codecFrontsUptoCard : Claim7 := { stood := { row := codecFrontsUptoRow, standIns := [], harness := (true, "db21d9f0c92558a36c1406a0d18603b5ddbd2862f024b39bb55d8f671894ade3"), looks := false }, kinds := [], alts := [], laidByText := true, laidKinds := [.data, .data], laidTests := true, laidLooks := .later }
def CodecFrontsUptoCardSaid : Prop := Claim7.holds Tryd.pinned (.plain (OpenSpec.upto codecFrontsSpec)) codecFrontsUptoCard

/-- THE SECOND FORM's CARD OF 'glacierlaw1.CodecBits'. -/
def codecBitsUptoCard : Claim7 := { stood := { row := codecBitsUptoRow, standIns := [], harness := (true, "db21d9f0c92558a36c1406a0d18603b5ddbd2862f024b39bb55d8f671894ade3"), looks := false }, kinds := [], alts := [], laidByText := true, laidKinds := [.data, .data], laidTests := true, laidLooks := .later }
def CodecBitsUptoCardSaid : Prop := Claim7.holds Tryd.pinned (.plain (OpenSpec.upto codecBitsSpec)) codecBitsUptoCard

/-- THE SECOND FORM's CARD OF 'glacierlaw1.CodecGrows'. -/
def codecGrowsUptoCard : Claim7 := { stood := { row := codecGrowsUptoRow, standIns := [], harness := (true, "db21d9f0c92558a36c1406a0d18603b5ddbd2862f024b39bb55d8f671894ade3"), looks := false }, kinds := [], alts := [], laidByText := true, laidKinds := [.data, .data], laidTests := true, laidLooks := .later }
def CodecGrowsUptoCardSaid : Prop := Claim7.holds Tryd.pinned (.plain (OpenSpec.upto codecGrowsSpec)) codecGrowsUptoCard

/-- THE SECOND FORM's CARD OF 'glacierlaw1.CodecNests'. -/
def codecNestsUptoCard : Claim7 := { stood := { row := codecNestsUptoRow, standIns := [], harness := (true, "db21d9f0c92558a36c1406a0d18603b5ddbd2862f024b39bb55d8f671894ade3"), looks := false }, kinds := [], alts := [], laidByText := true, laidKinds := [.data, .data], laidTests := true, laidLooks := .later }
def CodecNestsUptoCardSaid : Prop := Claim7.holds Tryd.pinned (.plain (OpenSpec.upto codecNestsSpec)) codecNestsUptoCard
end Rows
end Go.Proofs.YtjhafhfneedmjaaDoor
