/-
  DERIVED. GIVEN WITH THE SEED: THE CARDS: each row of YtokbiekdompaoaaDoorRows.lean that lists a variable, with what it lists TIED to the program's text (the seventh form; the later family's looks); each row that meets fmt, with fmt's text TOLD by the authors' own Lean function (tested against real Go, not proved from fmt's source: count such statements apart). THE CARD IS WHAT COUNTS. Prove the row's statement (the work); the ties are given (YtokbiekdompaoaaDoorTie.lean); close each card by the builder's one call (the guide's Derived/Test/ToyasCard.lean, 'card_holds'). Laid BY PROGRAM, IN A SANDBOX (cutbox-door.mjs). By AI agents, Wed Nov 11 2026. No macro, syntax, notation, axiom, sorry.
-/
import Derived.Test.YtokbiekdompaoaaDoorRows
import GoSem.ClaimSeven
namespace Go.Proofs.YtokbiekdompaoaaDoor
namespace Rows

/-- THE TIED CARD OF 'tabularylaw12.SpaceMaps'. -/
def spaceMapsCard : Claim7 := { stood := { row := spaceMapsRow, standIns := [], harness := (true, "456d5077c384ab7a584ed67c22a94941071402a761065674049a3aecd89b5f11"), looks := false }, kinds := [], alts := [], laidByText := true, laidKinds := [.data], laidTests := true, laidLooks := .later }
def SpaceMapsCardSaid : Prop := Claim7.holds Tryd.pinned (.plain (OpenSpec.ofChange spaceMapsSpec)) spaceMapsCard

/-- THE TIED CARD OF 'tabularylaw12.SpaceNobody'. -/
def spaceNobodyCard : Claim7 := { stood := { row := spaceNobodyRow, standIns := [], harness := (true, "456d5077c384ab7a584ed67c22a94941071402a761065674049a3aecd89b5f11"), looks := false }, kinds := [], alts := [], laidByText := true, laidKinds := [.data], laidTests := true, laidLooks := .later }
def SpaceNobodyCardSaid : Prop := Claim7.holds Tryd.pinned (.plain (OpenSpec.ofChange spaceNobodySpec)) spaceNobodyCard

/-- THE TIED CARD OF 'tabularylaw12.SpaceGives'. -/
def spaceGivesCard : Claim7 := { stood := { row := spaceGivesRow, standIns := [], harness := (true, "456d5077c384ab7a584ed67c22a94941071402a761065674049a3aecd89b5f11"), looks := false }, kinds := [], alts := [], laidByText := true, laidKinds := [.data], laidTests := true, laidLooks := .later }
def SpaceGivesCardSaid : Prop := Claim7.holds Tryd.pinned (.plain (OpenSpec.ofChange spaceGivesSpec)) spaceGivesCard

/-- THE SECOND FORM's CARD OF 'tabularylaw12.SpaceMaps'. -/
def spaceMapsUptoCard : Claim7 := { stood := { row := spaceMapsUptoRow, standIns := [], harness := (true, "456d5077c384ab7a584ed67c22a94941071402a761065674049a3aecd89b5f11"), looks := false }, kinds := [], alts := [], laidByText := true, laidKinds := [.data], laidTests := true, laidLooks := .later }
def SpaceMapsUptoCardSaid : Prop := Claim7.holds Tryd.pinned (.plain (OpenSpec.upto spaceMapsSpec)) spaceMapsUptoCard

/-- THE SECOND FORM's CARD OF 'tabularylaw12.SpaceNobody'. -/
def spaceNobodyUptoCard : Claim7 := { stood := { row := spaceNobodyUptoRow, standIns := [], harness := (true, "456d5077c384ab7a584ed67c22a94941071402a761065674049a3aecd89b5f11"), looks := false }, kinds := [], alts := [], laidByText := true, laidKinds := [.data], laidTests := true, laidLooks := .later }
def SpaceNobodyUptoCardSaid : Prop := Claim7.holds Tryd.pinned (.plain (OpenSpec.upto spaceNobodySpec)) spaceNobodyUptoCard

/-- THE SECOND FORM's CARD OF 'tabularylaw12.SpaceGives'. -/
def spaceGivesUptoCard : Claim7 := { stood := { row := spaceGivesUptoRow, standIns := [], harness := (true, "456d5077c384ab7a584ed67c22a94941071402a761065674049a3aecd89b5f11"), looks := false }, kinds := [], alts := [], laidByText := true, laidKinds := [.data], laidTests := true, laidLooks := .later }
def SpaceGivesUptoCardSaid : Prop := Claim7.holds Tryd.pinned (.plain (OpenSpec.upto spaceGivesSpec)) spaceGivesUptoCard
end Rows
end Go.Proofs.YtokbiekdompaoaaDoor
