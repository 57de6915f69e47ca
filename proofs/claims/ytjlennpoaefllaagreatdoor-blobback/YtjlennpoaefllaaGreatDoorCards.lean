/-
  DERIVED. GIVEN WITH THE SEED: THE CARDS: each row of YtjlennpoaefllaaGreatDoorRows.lean that lists a variable, with what it lists TIED to the program's text (the seventh form; the later family's looks); each row that meets fmt, with fmt's text TOLD by the authors' own Lean function (tested against real Go, not proved from fmt's source: count such statements apart). THE CARD IS WHAT COUNTS. Prove the row's statement (the work); the ties are given (YtjlennpoaefllaaGreatDoorTie.lean); close each card by the builder's one call (the guide's Derived/Test/ToyasCard.lean, 'card_holds'). Laid BY PROGRAM, IN A SANDBOX (cutbox-door.mjs). By AI agents, Wed Nov 11 2026. No macro, syntax, notation, axiom, sorry.
-/
import Derived.Test.YtjlennpoaefllaaGreatDoorRows
import GoSem.ClaimSeven
namespace Go.Proofs.YtjlennpoaefllaaGreatDoor
namespace Rows

/-- THE TIED CARD OF 'tabularylaw12.SpacePlays'. -/
def spacePlaysCard : Claim7 := { stood := { row := spacePlaysRow, standIns := [], harness := (true, "7e56d7363567cc12c0495a4e4a80ded8b0f9d3d8dffdb764f3fe7eca33cfa45c"), looks := false }, kinds := [], alts := [], laidByText := true, laidKinds := [.data], laidTests := true, laidLooks := .later }
def SpacePlaysCardSaid : Prop := Claim7.holds Tryz.pinned (.plain (OpenSpec.ofChange spacePlaysSpec)) spacePlaysCard

/-- THE TIED CARD OF 'tabularylaw13.BlobPlays'. -/
def blobPlaysCard : Claim7 := { stood := { row := blobPlaysRow, standIns := [], harness := (true, "7e56d7363567cc12c0495a4e4a80ded8b0f9d3d8dffdb764f3fe7eca33cfa45c"), looks := false }, kinds := [], alts := [], laidByText := true, laidKinds := [.data], laidTests := true, laidLooks := .later }
def BlobPlaysCardSaid : Prop := Claim7.holds Tryz.pinned (.plain (OpenSpec.ofChange blobPlaysSpec)) blobPlaysCard

/-- THE TIED CARD OF 'tabularylaw13.BlobSizes'. -/
def blobSizesCard : Claim7 := { stood := { row := blobSizesRow, standIns := [], harness := (true, "7e56d7363567cc12c0495a4e4a80ded8b0f9d3d8dffdb764f3fe7eca33cfa45c"), looks := false }, kinds := [], alts := [], laidByText := true, laidKinds := [.data], laidTests := true, laidLooks := .later }
def BlobSizesCardSaid : Prop := Claim7.holds Tryz.pinned (.plain (OpenSpec.ofChange blobSizesSpec)) blobSizesCard

/-- THE TIED CARD OF 'tabularylaw13.BlobNobody'. -/
def blobNobodyCard : Claim7 := { stood := { row := blobNobodyRow, standIns := [], harness := (true, "7e56d7363567cc12c0495a4e4a80ded8b0f9d3d8dffdb764f3fe7eca33cfa45c"), looks := false }, kinds := [], alts := [], laidByText := true, laidKinds := [.data], laidTests := true, laidLooks := .later }
def BlobNobodyCardSaid : Prop := Claim7.holds Tryz.pinned (.plain (OpenSpec.ofChange blobNobodySpec)) blobNobodyCard

/-- THE TIED CARD OF 'tabularylaw13.BlobBack'. -/
def blobBackCard : Claim7 := { stood := { row := blobBackRow, standIns := [], harness := (true, "7e56d7363567cc12c0495a4e4a80ded8b0f9d3d8dffdb764f3fe7eca33cfa45c"), looks := false }, kinds := [], alts := [], laidByText := true, laidKinds := [.data], laidTests := true, laidLooks := .later }
def BlobBackCardSaid : Prop := Claim7.holds Tryz.pinned (.plain (OpenSpec.ofChange blobBackSpec)) blobBackCard

/-- THE SECOND FORM's CARD OF 'tabularylaw12.SpacePlays'. -/
def spacePlaysUptoCard : Claim7 := { stood := { row := spacePlaysUptoRow, standIns := [], harness := (true, "7e56d7363567cc12c0495a4e4a80ded8b0f9d3d8dffdb764f3fe7eca33cfa45c"), looks := false }, kinds := [], alts := [], laidByText := true, laidKinds := [.data], laidTests := true, laidLooks := .later }
def SpacePlaysUptoCardSaid : Prop := Claim7.holds Tryz.pinned (.plain (OpenSpec.upto spacePlaysSpec)) spacePlaysUptoCard

/-- THE SECOND FORM's CARD OF 'tabularylaw13.BlobPlays'. -/
def blobPlaysUptoCard : Claim7 := { stood := { row := blobPlaysUptoRow, standIns := [], harness := (true, "7e56d7363567cc12c0495a4e4a80ded8b0f9d3d8dffdb764f3fe7eca33cfa45c"), looks := false }, kinds := [], alts := [], laidByText := true, laidKinds := [.data], laidTests := true, laidLooks := .later }
def BlobPlaysUptoCardSaid : Prop := Claim7.holds Tryz.pinned (.plain (OpenSpec.upto blobPlaysSpec)) blobPlaysUptoCard

/-- THE SECOND FORM's CARD OF 'tabularylaw13.BlobSizes'. -/
def blobSizesUptoCard : Claim7 := { stood := { row := blobSizesUptoRow, standIns := [], harness := (true, "7e56d7363567cc12c0495a4e4a80ded8b0f9d3d8dffdb764f3fe7eca33cfa45c"), looks := false }, kinds := [], alts := [], laidByText := true, laidKinds := [.data], laidTests := true, laidLooks := .later }
def BlobSizesUptoCardSaid : Prop := Claim7.holds Tryz.pinned (.plain (OpenSpec.upto blobSizesSpec)) blobSizesUptoCard

/-- THE SECOND FORM's CARD OF 'tabularylaw13.BlobNobody'. -/
def blobNobodyUptoCard : Claim7 := { stood := { row := blobNobodyUptoRow, standIns := [], harness := (true, "7e56d7363567cc12c0495a4e4a80ded8b0f9d3d8dffdb764f3fe7eca33cfa45c"), looks := false }, kinds := [], alts := [], laidByText := true, laidKinds := [.data], laidTests := true, laidLooks := .later }
def BlobNobodyUptoCardSaid : Prop := Claim7.holds Tryz.pinned (.plain (OpenSpec.upto blobNobodySpec)) blobNobodyUptoCard

/-- THE SECOND FORM's CARD OF 'tabularylaw13.BlobBack'. -/
def blobBackUptoCard : Claim7 := { stood := { row := blobBackUptoRow, standIns := [], harness := (true, "7e56d7363567cc12c0495a4e4a80ded8b0f9d3d8dffdb764f3fe7eca33cfa45c"), looks := false }, kinds := [], alts := [], laidByText := true, laidKinds := [.data], laidTests := true, laidLooks := .later }
def BlobBackUptoCardSaid : Prop := Claim7.holds Tryz.pinned (.plain (OpenSpec.upto blobBackSpec)) blobBackUptoCard
end Rows
end Go.Proofs.YtjlennpoaefllaaGreatDoor
