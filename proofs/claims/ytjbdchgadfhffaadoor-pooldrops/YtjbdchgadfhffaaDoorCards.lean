/-
  DERIVED. GIVEN WITH THE SEED: THE CARDS: each row of YtjbdchgadfhffaaDoorRows.lean that lists a variable, with what it lists TIED to the program's text (the seventh form; the later family's looks); each row that meets fmt, with fmt's text TOLD by the authors' own Lean function (tested against real Go, not proved from fmt's source: count such statements apart). THE CARD IS WHAT COUNTS. Prove the row's statement (the work); the ties are given (YtjbdchgadfhffaaDoorTie.lean); close each card by the builder's one call (the guide's Derived/Test/ToyasCard.lean, 'card_holds'). Laid BY PROGRAM, IN A SANDBOX (cutbox-door.mjs). By AI agents, Wed Nov 11 2026. No macro, syntax, notation, axiom, sorry.
-/
import Derived.Test.YtjbdchgadfhffaaDoorRows
import GoSem.ClaimSeven
namespace Go.Proofs.YtjbdchgadfhffaaDoor
namespace Rows

/-- THE TIED CARD OF 'tabularylaw11.PoolNobody'. -/
def poolNobodyCard : Claim7 := { stood := { row := poolNobodyRow, standIns := [], harness := (true, "d3b30d6b3c174a4c9558991bd27d10d35a32a130566d8b1c1b2952e60f086ebb"), looks := false }, kinds := [], alts := [], laidByText := true, laidKinds := [.data], laidTests := true, laidLooks := .later }
def PoolNobodyCardSaid : Prop := Claim7.holds Tryd.pinned (.plain (OpenSpec.ofChange poolNobodySpec)) poolNobodyCard

/-- THE TIED CARD OF 'tabularylaw11.PoolDrops'. -/
def poolDropsCard : Claim7 := { stood := { row := poolDropsRow, standIns := [], harness := (true, "d3b30d6b3c174a4c9558991bd27d10d35a32a130566d8b1c1b2952e60f086ebb"), looks := false }, kinds := [], alts := [], laidByText := true, laidKinds := [.data], laidTests := true, laidLooks := .later }
def PoolDropsCardSaid : Prop := Claim7.holds Tryd.pinned (.plain (OpenSpec.ofChange poolDropsSpec)) poolDropsCard

/-- THE TIED CARD OF 'tabularylaw11.PoolLasts'. -/
def poolLastsCard : Claim7 := { stood := { row := poolLastsRow, standIns := [], harness := (true, "d3b30d6b3c174a4c9558991bd27d10d35a32a130566d8b1c1b2952e60f086ebb"), looks := false }, kinds := [], alts := [], laidByText := true, laidKinds := [.data], laidTests := true, laidLooks := .later }
def PoolLastsCardSaid : Prop := Claim7.holds Tryd.pinned (.plain (OpenSpec.ofChange poolLastsSpec)) poolLastsCard

/-- THE TIED CARD OF 'tabularylaw11.PoolAges'. -/
def poolAgesCard : Claim7 := { stood := { row := poolAgesRow, standIns := [], harness := (true, "d3b30d6b3c174a4c9558991bd27d10d35a32a130566d8b1c1b2952e60f086ebb"), looks := false }, kinds := [], alts := [], laidByText := true, laidKinds := [.data], laidTests := true, laidLooks := .later }
def PoolAgesCardSaid : Prop := Claim7.holds Tryd.pinned (.plain (OpenSpec.ofChange poolAgesSpec)) poolAgesCard

/-- THE SECOND FORM's CARD OF 'tabularylaw11.PoolNobody'. -/
def poolNobodyUptoCard : Claim7 := { stood := { row := poolNobodyUptoRow, standIns := [], harness := (true, "d3b30d6b3c174a4c9558991bd27d10d35a32a130566d8b1c1b2952e60f086ebb"), looks := false }, kinds := [], alts := [], laidByText := true, laidKinds := [.data], laidTests := true, laidLooks := .later }
def PoolNobodyUptoCardSaid : Prop := Claim7.holds Tryd.pinned (.plain (OpenSpec.upto poolNobodySpec)) poolNobodyUptoCard

/-- THE SECOND FORM's CARD OF 'tabularylaw11.PoolDrops'. -/
def poolDropsUptoCard : Claim7 := { stood := { row := poolDropsUptoRow, standIns := [], harness := (true, "d3b30d6b3c174a4c9558991bd27d10d35a32a130566d8b1c1b2952e60f086ebb"), looks := false }, kinds := [], alts := [], laidByText := true, laidKinds := [.data], laidTests := true, laidLooks := .later }
def PoolDropsUptoCardSaid : Prop := Claim7.holds Tryd.pinned (.plain (OpenSpec.upto poolDropsSpec)) poolDropsUptoCard

/-- THE SECOND FORM's CARD OF 'tabularylaw11.PoolLasts'. -/
def poolLastsUptoCard : Claim7 := { stood := { row := poolLastsUptoRow, standIns := [], harness := (true, "d3b30d6b3c174a4c9558991bd27d10d35a32a130566d8b1c1b2952e60f086ebb"), looks := false }, kinds := [], alts := [], laidByText := true, laidKinds := [.data], laidTests := true, laidLooks := .later }
def PoolLastsUptoCardSaid : Prop := Claim7.holds Tryd.pinned (.plain (OpenSpec.upto poolLastsSpec)) poolLastsUptoCard

/-- THE SECOND FORM's CARD OF 'tabularylaw11.PoolAges'. -/
def poolAgesUptoCard : Claim7 := { stood := { row := poolAgesUptoRow, standIns := [], harness := (true, "d3b30d6b3c174a4c9558991bd27d10d35a32a130566d8b1c1b2952e60f086ebb"), looks := false }, kinds := [], alts := [], laidByText := true, laidKinds := [.data], laidTests := true, laidLooks := .later }
def PoolAgesUptoCardSaid : Prop := Claim7.holds Tryd.pinned (.plain (OpenSpec.upto poolAgesSpec)) poolAgesUptoCard
end Rows
end Go.Proofs.YtjbdchgadfhffaaDoor
