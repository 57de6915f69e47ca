/-
  DERIVED. GIVEN WITH THE SEED: THE CARDS: each row of YtahbggdidhmnfaaDoorRows.lean that lists a variable, with what it lists TIED to the program's text (the seventh form; the later family's looks); each row that meets fmt, with fmt's text TOLD by the authors' own Lean function (tested against real Go, not proved from fmt's source: count such statements apart). THE CARD IS WHAT COUNTS. Prove the row's statement (the work); the ties are given (YtahbggdidhmnfaaDoorTie.lean); close each card by the builder's one call (the guide's Derived/Test/ToyasCard.lean, 'card_holds'). Laid BY PROGRAM, IN A SANDBOX (cutbox-door.mjs). By AI agents, Wed Nov 11 2026. No macro, syntax, notation, axiom, sorry.
-/
import Derived.Test.YtahbggdidhmnfaaDoorRows
import GoSem.ClaimSeven
namespace Go.Proofs.YtahbggdidhmnfaaDoor
namespace Rows

/-- THE TIED CARD OF 'tabularylaw07.StampWraps'. -/
def stampWrapsCard : Claim7 := { stood := { row := stampWrapsRow, standIns := [], harness := (true, "5286b646434b9b237d370f0f1baeea00ec5efb5e3f0e8c0044cf0c7e3c6a1f43"), looks := false }, kinds := [], alts := [], laidByText := true, laidKinds := [.data], laidTests := true, laidLooks := .later }
def StampWrapsCardSaid : Prop := Claim7.holds Tryd.pinned (.plain (OpenSpec.ofChange stampWrapsSpec)) stampWrapsCard

/-- THE TIED CARD OF 'tabularylaw07.StampOpens'. -/
def stampOpensCard : Claim7 := { stood := { row := stampOpensRow, standIns := [], harness := (true, "5286b646434b9b237d370f0f1baeea00ec5efb5e3f0e8c0044cf0c7e3c6a1f43"), looks := false }, kinds := [], alts := [], laidByText := true, laidKinds := [.data], laidTests := true, laidLooks := .later }
def StampOpensCardSaid : Prop := Claim7.holds Tryd.pinned (.plain (OpenSpec.ofChange stampOpensSpec)) stampOpensCard

/-- THE TIED CARD OF 'tabularylaw07.StampTears'. -/
def stampTearsCard : Claim7 := { stood := { row := stampTearsRow, standIns := [], harness := (true, "5286b646434b9b237d370f0f1baeea00ec5efb5e3f0e8c0044cf0c7e3c6a1f43"), looks := false }, kinds := [], alts := [], laidByText := true, laidKinds := [.data], laidTests := true, laidLooks := .later }
def StampTearsCardSaid : Prop := Claim7.holds Tryd.pinned (.plain (OpenSpec.ofChange stampTearsSpec)) stampTearsCard

/-- THE TIED CARD OF 'tabularylaw07.StampWhole'. -/
def stampWholeCard : Claim7 := { stood := { row := stampWholeRow, standIns := [], harness := (true, "5286b646434b9b237d370f0f1baeea00ec5efb5e3f0e8c0044cf0c7e3c6a1f43"), looks := false }, kinds := [], alts := [], laidByText := true, laidKinds := [.data], laidTests := true, laidLooks := .later }
def StampWholeCardSaid : Prop := Claim7.holds Tryd.pinned (.plain (OpenSpec.ofChange stampWholeSpec)) stampWholeCard

/-- THE TIED CARD OF 'tabularylaw07.StampBursts'. -/
def stampBurstsCard : Claim7 := { stood := { row := stampBurstsRow, standIns := [], harness := (true, "5286b646434b9b237d370f0f1baeea00ec5efb5e3f0e8c0044cf0c7e3c6a1f43"), looks := false }, kinds := [], alts := [], laidByText := true, laidKinds := [.data], laidTests := true, laidLooks := .later }
def StampBurstsCardSaid : Prop := Claim7.holds Tryd.pinned (.plain (OpenSpec.ofChange stampBurstsSpec)) stampBurstsCard

/-- THE SECOND FORM's CARD OF 'tabularylaw07.StampWraps'. -/
def stampWrapsUptoCard : Claim7 := { stood := { row := stampWrapsUptoRow, standIns := [], harness := (true, "5286b646434b9b237d370f0f1baeea00ec5efb5e3f0e8c0044cf0c7e3c6a1f43"), looks := false }, kinds := [], alts := [], laidByText := true, laidKinds := [.data], laidTests := true, laidLooks := .later }
def StampWrapsUptoCardSaid : Prop := Claim7.holds Tryd.pinned (.plain (OpenSpec.upto stampWrapsSpec)) stampWrapsUptoCard

/-- THE SECOND FORM's CARD OF 'tabularylaw07.StampOpens'. -/
def stampOpensUptoCard : Claim7 := { stood := { row := stampOpensUptoRow, standIns := [], harness := (true, "5286b646434b9b237d370f0f1baeea00ec5efb5e3f0e8c0044cf0c7e3c6a1f43"), looks := false }, kinds := [], alts := [], laidByText := true, laidKinds := [.data], laidTests := true, laidLooks := .later }
def StampOpensUptoCardSaid : Prop := Claim7.holds Tryd.pinned (.plain (OpenSpec.upto stampOpensSpec)) stampOpensUptoCard

/-- THE SECOND FORM's CARD OF 'tabularylaw07.StampTears'. -/
def stampTearsUptoCard : Claim7 := { stood := { row := stampTearsUptoRow, standIns := [], harness := (true, "5286b646434b9b237d370f0f1baeea00ec5efb5e3f0e8c0044cf0c7e3c6a1f43"), looks := false }, kinds := [], alts := [], laidByText := true, laidKinds := [.data], laidTests := true, laidLooks := .later }
def StampTearsUptoCardSaid : Prop := Claim7.holds Tryd.pinned (.plain (OpenSpec.upto stampTearsSpec)) stampTearsUptoCard

/-- THE SECOND FORM's CARD OF 'tabularylaw07.StampWhole'. -/
def stampWholeUptoCard : Claim7 := { stood := { row := stampWholeUptoRow, standIns := [], harness := (true, "5286b646434b9b237d370f0f1baeea00ec5efb5e3f0e8c0044cf0c7e3c6a1f43"), looks := false }, kinds := [], alts := [], laidByText := true, laidKinds := [.data], laidTests := true, laidLooks := .later }
def StampWholeUptoCardSaid : Prop := Claim7.holds Tryd.pinned (.plain (OpenSpec.upto stampWholeSpec)) stampWholeUptoCard

/-- THE SECOND FORM's CARD OF 'tabularylaw07.StampBursts'. -/
def stampBurstsUptoCard : Claim7 := { stood := { row := stampBurstsUptoRow, standIns := [], harness := (true, "5286b646434b9b237d370f0f1baeea00ec5efb5e3f0e8c0044cf0c7e3c6a1f43"), looks := false }, kinds := [], alts := [], laidByText := true, laidKinds := [.data], laidTests := true, laidLooks := .later }
def StampBurstsUptoCardSaid : Prop := Claim7.holds Tryd.pinned (.plain (OpenSpec.upto stampBurstsSpec)) stampBurstsUptoCard
end Rows
end Go.Proofs.YtahbggdidhmnfaaDoor
