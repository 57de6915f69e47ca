/-
  DERIVED. GIVEN WITH THE SEED: THE CARDS: each row of YtmmgfankbabfbaaDoorRows.lean that lists a variable, with what it lists TIED to the program's text (the seventh form; the later family's looks); each row that meets fmt, with fmt's text TOLD by the authors' own Lean function (tested against real Go, not proved from fmt's source: count such statements apart). THE CARD IS WHAT COUNTS. Prove the row's statement (the work); the ties are given (YtmmgfankbabfbaaDoorTie.lean); close each card by the builder's one call (the guide's Derived/Test/ToyasCard.lean, 'card_holds'). Laid BY PROGRAM, IN A SANDBOX (cutbox-door.mjs). By AI agents, Wed Nov 11 2026. No macro, syntax, notation, axiom, sorry.
-/
import Derived.Test.YtmmgfankbabfbaaDoorRows
import GoSem.ClaimSeven
namespace Go.Proofs.YtmmgfankbabfbaaDoor
namespace Rows

/-- THE TIED CARD OF 'tabularylaw10.MasterPlays'. -/
def masterPlaysCard : Claim7 := { stood := { row := masterPlaysRow, standIns := [], harness := (true, "b1bb3e1f7669d26e8cadc4bfb42267ea80a7044b21199e96b3728999ba026ed5"), looks := true }, kinds := [], alts := [], laidByText := true, laidKinds := [.data], laidTests := true, laidLooks := .later }
def MasterPlaysCardSaid : Prop := Claim7.holds Tryd.pinned (.plain (OpenSpec.ofChange masterPlaysSpec)) masterPlaysCard

/-- THE TIED CARD OF 'tabularylaw10.MasterNobody'. -/
def masterNobodyCard : Claim7 := { stood := { row := masterNobodyRow, standIns := [], harness := (true, "b1bb3e1f7669d26e8cadc4bfb42267ea80a7044b21199e96b3728999ba026ed5"), looks := true }, kinds := [], alts := [], laidByText := true, laidKinds := [.data], laidTests := true, laidLooks := .later }
def MasterNobodyCardSaid : Prop := Claim7.holds Tryd.pinned (.plain (OpenSpec.ofChange masterNobodySpec)) masterNobodyCard

/-- THE TIED CARD OF 'tabularylaw10.MasterCrash'. -/
def masterCrashCard : Claim7 := { stood := { row := masterCrashRow, standIns := [], harness := (true, "b1bb3e1f7669d26e8cadc4bfb42267ea80a7044b21199e96b3728999ba026ed5"), looks := true }, kinds := [], alts := [], laidByText := true, laidKinds := [.data], laidTests := true, laidLooks := .later }
def MasterCrashCardSaid : Prop := Claim7.holds Tryd.pinned (.plain (OpenSpec.ofChange masterCrashSpec)) masterCrashCard

/-- THE TIED CARD OF 'tabularylaw10.MasterTurns'. -/
def masterTurnsCard : Claim7 := { stood := { row := masterTurnsRow, standIns := [], harness := (true, "b1bb3e1f7669d26e8cadc4bfb42267ea80a7044b21199e96b3728999ba026ed5"), looks := true }, kinds := [], alts := [], laidByText := true, laidKinds := [.data], laidTests := true, laidLooks := .later }
def MasterTurnsCardSaid : Prop := Claim7.holds Tryd.pinned (.plain (OpenSpec.ofChange masterTurnsSpec)) masterTurnsCard

/-- THE SECOND FORM's CARD OF 'tabularylaw10.MasterPlays'. -/
def masterPlaysUptoCard : Claim7 := { stood := { row := masterPlaysUptoRow, standIns := [], harness := (true, "b1bb3e1f7669d26e8cadc4bfb42267ea80a7044b21199e96b3728999ba026ed5"), looks := true }, kinds := [], alts := [], laidByText := true, laidKinds := [.data], laidTests := true, laidLooks := .later }
def MasterPlaysUptoCardSaid : Prop := Claim7.holds Tryd.pinned (.plain (OpenSpec.upto masterPlaysSpec)) masterPlaysUptoCard

/-- THE SECOND FORM's CARD OF 'tabularylaw10.MasterNobody'. -/
def masterNobodyUptoCard : Claim7 := { stood := { row := masterNobodyUptoRow, standIns := [], harness := (true, "b1bb3e1f7669d26e8cadc4bfb42267ea80a7044b21199e96b3728999ba026ed5"), looks := true }, kinds := [], alts := [], laidByText := true, laidKinds := [.data], laidTests := true, laidLooks := .later }
def MasterNobodyUptoCardSaid : Prop := Claim7.holds Tryd.pinned (.plain (OpenSpec.upto masterNobodySpec)) masterNobodyUptoCard

/-- THE SECOND FORM's CARD OF 'tabularylaw10.MasterCrash'. -/
def masterCrashUptoCard : Claim7 := { stood := { row := masterCrashUptoRow, standIns := [], harness := (true, "b1bb3e1f7669d26e8cadc4bfb42267ea80a7044b21199e96b3728999ba026ed5"), looks := true }, kinds := [], alts := [], laidByText := true, laidKinds := [.data], laidTests := true, laidLooks := .later }
def MasterCrashUptoCardSaid : Prop := Claim7.holds Tryd.pinned (.plain (OpenSpec.upto masterCrashSpec)) masterCrashUptoCard

/-- THE SECOND FORM's CARD OF 'tabularylaw10.MasterTurns'. -/
def masterTurnsUptoCard : Claim7 := { stood := { row := masterTurnsUptoRow, standIns := [], harness := (true, "b1bb3e1f7669d26e8cadc4bfb42267ea80a7044b21199e96b3728999ba026ed5"), looks := true }, kinds := [], alts := [], laidByText := true, laidKinds := [.data], laidTests := true, laidLooks := .later }
def MasterTurnsUptoCardSaid : Prop := Claim7.holds Tryd.pinned (.plain (OpenSpec.upto masterTurnsSpec)) masterTurnsUptoCard
end Rows
end Go.Proofs.YtmmgfankbabfbaaDoor
