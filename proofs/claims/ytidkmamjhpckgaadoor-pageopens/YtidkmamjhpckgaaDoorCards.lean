/-
  DERIVED. GIVEN WITH THE SEED: THE CARDS: each row of YtidkmamjhpckgaaDoorRows.lean that lists a variable, with what it lists TIED to the program's text (the seventh form; the later family's looks); each row that meets fmt, with fmt's text TOLD by the authors' own Lean function (tested against real Go, not proved from fmt's source: count such statements apart). THE CARD IS WHAT COUNTS. Prove the row's statement (the work); the ties are given (YtidkmamjhpckgaaDoorTie.lean); close each card by the builder's one call (the guide's Derived/Test/ToyasCard.lean, 'card_holds'). Laid BY PROGRAM, IN A SANDBOX (cutbox-door.mjs). By AI agents, Wed Nov 11 2026. No macro, syntax, notation, axiom, sorry.
-/
import Derived.Test.YtidkmamjhpckgaaDoorRows
import GoSem.ClaimSeven
namespace Go.Proofs.YtidkmamjhpckgaaDoor
namespace Rows

/-- THE TIED CARD OF 'tabularylaw09.PageOpens'. -/
def pageOpensCard : Claim7 := { stood := { row := pageOpensRow, standIns := [], harness := (true, "14a591b54a5522d983035bb7f393f5163fcb0f39b0df0803a7498411178f9345"), looks := false }, kinds := [], alts := [], laidByText := true, laidKinds := [.data], laidTests := true, laidLooks := .later }
def PageOpensCardSaid : Prop := Claim7.holds Tryd.pinned (.plain (OpenSpec.ofChange pageOpensSpec)) pageOpensCard

/-- THE TIED CARD OF 'tabularylaw09.PageOnly'. -/
def pageOnlyCard : Claim7 := { stood := { row := pageOnlyRow, standIns := [], harness := (true, "14a591b54a5522d983035bb7f393f5163fcb0f39b0df0803a7498411178f9345"), looks := false }, kinds := [], alts := [], laidByText := true, laidKinds := [.data], laidTests := true, laidLooks := .later }
def PageOnlyCardSaid : Prop := Claim7.holds Tryd.pinned (.plain (OpenSpec.ofChange pageOnlySpec)) pageOnlyCard

/-- THE TIED CARD OF 'tabularylaw09.PageBursts'. -/
def pageBurstsCard : Claim7 := { stood := { row := pageBurstsRow, standIns := [], harness := (true, "14a591b54a5522d983035bb7f393f5163fcb0f39b0df0803a7498411178f9345"), looks := false }, kinds := [], alts := [], laidByText := true, laidKinds := [.data], laidTests := true, laidLooks := .later }
def PageBurstsCardSaid : Prop := Claim7.holds Tryd.pinned (.plain (OpenSpec.ofChange pageBurstsSpec)) pageBurstsCard

/-- THE SECOND FORM's CARD OF 'tabularylaw09.PageOpens'. -/
def pageOpensUptoCard : Claim7 := { stood := { row := pageOpensUptoRow, standIns := [], harness := (true, "14a591b54a5522d983035bb7f393f5163fcb0f39b0df0803a7498411178f9345"), looks := false }, kinds := [], alts := [], laidByText := true, laidKinds := [.data], laidTests := true, laidLooks := .later }
def PageOpensUptoCardSaid : Prop := Claim7.holds Tryd.pinned (.plain (OpenSpec.upto pageOpensSpec)) pageOpensUptoCard

/-- THE SECOND FORM's CARD OF 'tabularylaw09.PageOnly'. -/
def pageOnlyUptoCard : Claim7 := { stood := { row := pageOnlyUptoRow, standIns := [], harness := (true, "14a591b54a5522d983035bb7f393f5163fcb0f39b0df0803a7498411178f9345"), looks := false }, kinds := [], alts := [], laidByText := true, laidKinds := [.data], laidTests := true, laidLooks := .later }
def PageOnlyUptoCardSaid : Prop := Claim7.holds Tryd.pinned (.plain (OpenSpec.upto pageOnlySpec)) pageOnlyUptoCard

/-- THE SECOND FORM's CARD OF 'tabularylaw09.PageBursts'. -/
def pageBurstsUptoCard : Claim7 := { stood := { row := pageBurstsUptoRow, standIns := [], harness := (true, "14a591b54a5522d983035bb7f393f5163fcb0f39b0df0803a7498411178f9345"), looks := false }, kinds := [], alts := [], laidByText := true, laidKinds := [.data], laidTests := true, laidLooks := .later }
def PageBurstsUptoCardSaid : Prop := Claim7.holds Tryd.pinned (.plain (OpenSpec.upto pageBurstsSpec)) pageBurstsUptoCard
end Rows
end Go.Proofs.YtidkmamjhpckgaaDoor
