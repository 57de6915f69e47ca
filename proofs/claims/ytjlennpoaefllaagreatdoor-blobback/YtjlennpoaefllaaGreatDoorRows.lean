/-
  NARROWER THAN 'FOR EVERY INPUT', by the rows' own cells (each row's printed sentence says how): SpacePlays: laid · BlobPlays: laid · BlobSizes: laid · BlobNobody: laid · BlobBack: laid.
  DERIVED. THE GIVEN ROWS OF THIS SEAT. 5 by the template 'for every input the law returns true; each argument reads behind the call as it read before'; 0 by the template 'total and deterministic' (their statements: YtjlennpoaefllaaGreatDoorTotals.lean).
  GIVEN WITH THE SEED: the statements are not yours to turn. If you find one false, say at which input.
  Laid BY PROGRAM, IN A SANDBOX (cutbox-rows.mjs): the forced cells as the released guide's own fill.sh prints them over the translation 5d76b66d9e6b52e9… (all of the seat's roots in one cut). By AI agents, Wed Nov 11 2026. No macro, syntax, notation, axiom, sorry.
-/
import Derived.Test.YtjlennpoaefllaaGreatDoorChecked
import GoSem.Claim
import GoSem.ClaimJoined
import GoSem.ClaimMapViews
import Derived.JoinedTies
import Derived.KernelRfl
namespace Go.Proofs.YtjlennpoaefllaaGreatDoor
/- THE CELL 'sum', in the pinned program and in every row, IS THE sha256 OF THE DUMP (.gsa) THAT YtjlennpoaefllaaGreatDoorProg.lean LOADS. Nothing in Lean hashes anything: it is a label: what it is worth is what the hold of that sum in a sandbox is worth. -/
noncomputable def Tryz.pinned : Pinned := { name := "ytjlennpoaefllaagreatdoor", sum := "5d76b66d9e6b52e93146f87fb3f1d09329473bbf819de4d58df08ab0a0abe850", checked := Tryz.checked }
namespace Rows
def none {H : Type} : Left H := { results := [], args := [] }

/- WHAT THE LISTED PACKAGE-LEVEL VARIABLES READ AS WHEN THE CALL BEGINS. Each datum BY PROGRAM (the guide's laid-datum.mjs) off the statement by which the dump's own 'gosem.cut.vars' lays the variable. In a bare row this is a premise. The card (YtjlennpoaefllaaGreatDoorCards.lean) ties it to the program's text. -/
def laid_tabulary_crc_halves {H : Type} : DataW H := .agg [.lit (.int .u32 0), .lit (.int .u32 498536548), .lit (.int .u32 997073096), .lit (.int .u32 651767980), .lit (.int .u32 1994146192), .lit (.int .u32 1802195444), .lit (.int .u32 1303535960), .lit (.int .u32 1342533948), .lit (.int .u32 3988292384), .lit (.int .u32 4027552580), .lit (.int .u32 3604390888), .lit (.int .u32 3412177804), .lit (.int .u32 2607071920), .lit (.int .u32 2262029012), .lit (.int .u32 2685067896), .lit (.int .u32 3183342108)]

/-- 'tabularylaw12.SpacePlays': WHATEVER THE INPUT: true; the input reads as it did. -/
def spacePlaysSpec : ChangeSpec := { name := "spacePlays", fn := fun _ => fun
  | [d1, d2, d3] => { results := [.lit (.bool true)], args := [d1, d2, d3] }
  | _ => none }
def spacePlaysRow : OpenClaim := { program := "ytjlennpoaefllaagreatdoor", sum := "5d76b66d9e6b52e93146f87fb3f1d09329473bbf819de4d58df08ab0a0abe850", func := "tabulary/tabularylaw12.SpacePlays", spec := "spacePlays", unfollowed := true, recurses := true, named := ["tabulary/crc.halves"], apart := false, laid := [("tabulary/crc.halves", laid_tabulary_crc_halves)] }
def SpacePlaysSaid : Prop := spacePlaysRow.holds Tryz.pinned (OpenSpec.ofChange spacePlaysSpec)

/-- ITS FALSE NEIGHBOUR: 'it returns false'. Refute it at one input. -/
def spacePlaysWrong : ChangeSpec := { name := "spacePlays", fn := fun _ => fun
  | [d1, d2, d3] => { results := [.lit (.bool false)], args := [d1, d2, d3] }
  | _ => none }
def SpacePlaysWrongFalsely : Prop := spacePlaysRow.holds Tryz.pinned (OpenSpec.ofChange spacePlaysWrong)

/-- 'tabularylaw13.BlobPlays': WHATEVER THE INPUT: true; the input reads as it did. -/
def blobPlaysSpec : ChangeSpec := { name := "blobPlays", fn := fun _ => fun
  | [d1, d2, d3] => { results := [.lit (.bool true)], args := [d1, d2, d3] }
  | _ => none }
def blobPlaysRow : OpenClaim := { program := "ytjlennpoaefllaagreatdoor", sum := "5d76b66d9e6b52e93146f87fb3f1d09329473bbf819de4d58df08ab0a0abe850", func := "tabulary/tabularylaw13.BlobPlays", spec := "blobPlays", unfollowed := true, recurses := true, named := ["tabulary/crc.halves"], apart := false, laid := [("tabulary/crc.halves", laid_tabulary_crc_halves)] }
def BlobPlaysSaid : Prop := blobPlaysRow.holds Tryz.pinned (OpenSpec.ofChange blobPlaysSpec)

/-- ITS FALSE NEIGHBOUR: 'it returns false'. Refute it at one input. -/
def blobPlaysWrong : ChangeSpec := { name := "blobPlays", fn := fun _ => fun
  | [d1, d2, d3] => { results := [.lit (.bool false)], args := [d1, d2, d3] }
  | _ => none }
def BlobPlaysWrongFalsely : Prop := blobPlaysRow.holds Tryz.pinned (OpenSpec.ofChange blobPlaysWrong)

/-- 'tabularylaw13.BlobSizes': WHATEVER THE INPUT: true; the input reads as it did. -/
def blobSizesSpec : ChangeSpec := { name := "blobSizes", fn := fun _ => fun
  | [d] => { results := [.lit (.bool true)], args := [d] }
  | _ => none }
def blobSizesRow : OpenClaim := { program := "ytjlennpoaefllaagreatdoor", sum := "5d76b66d9e6b52e93146f87fb3f1d09329473bbf819de4d58df08ab0a0abe850", func := "tabulary/tabularylaw13.BlobSizes", spec := "blobSizes", unfollowed := true, recurses := true, named := ["tabulary/crc.halves"], apart := false, laid := [("tabulary/crc.halves", laid_tabulary_crc_halves)] }
def BlobSizesSaid : Prop := blobSizesRow.holds Tryz.pinned (OpenSpec.ofChange blobSizesSpec)

/-- ITS FALSE NEIGHBOUR: 'it returns false'. Refute it at one input. -/
def blobSizesWrong : ChangeSpec := { name := "blobSizes", fn := fun _ => fun
  | [d] => { results := [.lit (.bool false)], args := [d] }
  | _ => none }
def BlobSizesWrongFalsely : Prop := blobSizesRow.holds Tryz.pinned (OpenSpec.ofChange blobSizesWrong)

/-- 'tabularylaw13.BlobNobody': WHATEVER THE INPUT: true; the input reads as it did. -/
def blobNobodySpec : ChangeSpec := { name := "blobNobody", fn := fun _ => fun
  | [d1, d2] => { results := [.lit (.bool true)], args := [d1, d2] }
  | _ => none }
def blobNobodyRow : OpenClaim := { program := "ytjlennpoaefllaagreatdoor", sum := "5d76b66d9e6b52e93146f87fb3f1d09329473bbf819de4d58df08ab0a0abe850", func := "tabulary/tabularylaw13.BlobNobody", spec := "blobNobody", unfollowed := true, recurses := true, named := ["tabulary/crc.halves"], apart := false, laid := [("tabulary/crc.halves", laid_tabulary_crc_halves)] }
def BlobNobodySaid : Prop := blobNobodyRow.holds Tryz.pinned (OpenSpec.ofChange blobNobodySpec)

/-- ITS FALSE NEIGHBOUR: 'it returns false'. Refute it at one input. -/
def blobNobodyWrong : ChangeSpec := { name := "blobNobody", fn := fun _ => fun
  | [d1, d2] => { results := [.lit (.bool false)], args := [d1, d2] }
  | _ => none }
def BlobNobodyWrongFalsely : Prop := blobNobodyRow.holds Tryz.pinned (OpenSpec.ofChange blobNobodyWrong)

/-- 'tabularylaw13.BlobBack': WHATEVER THE INPUT: true; the input reads as it did. -/
def blobBackSpec : ChangeSpec := { name := "blobBack", fn := fun _ => fun
  | [d1, d2] => { results := [.lit (.bool true)], args := [d1, d2] }
  | _ => none }
def blobBackRow : OpenClaim := { program := "ytjlennpoaefllaagreatdoor", sum := "5d76b66d9e6b52e93146f87fb3f1d09329473bbf819de4d58df08ab0a0abe850", func := "tabulary/tabularylaw13.BlobBack", spec := "blobBack", unfollowed := true, recurses := true, named := ["tabulary/crc.halves"], apart := false, laid := [("tabulary/crc.halves", laid_tabulary_crc_halves)] }
def BlobBackSaid : Prop := blobBackRow.holds Tryz.pinned (OpenSpec.ofChange blobBackSpec)

/-- ITS FALSE NEIGHBOUR: 'it returns false'. Refute it at one input. -/
def blobBackWrong : ChangeSpec := { name := "blobBack", fn := fun _ => fun
  | [d1, d2] => { results := [.lit (.bool false)], args := [d1, d2] }
  | _ => none }
def BlobBackWrongFalsely : Prop := blobBackRow.holds Tryz.pinned (OpenSpec.ofChange blobBackWrong)

/- THE SECOND FORM. 'bulk': how many values and letters a reading holds, each counted each time it is reached (what is shared counts as often as it is met; a slice's spare places count too). A statement '..UptoSaid' is the law's where the arguments, and the package variables that the reading takes, are together of bulk at most 1048576: NARROWER than '..Said'. Prove '..Said' where nothing that the law and all that it calls make is longer than what came in: it says more and counts as full. Else prove '..UptoSaid'. A law counts once. -/
mutual
def uptoBulk {H : Type} : DataW H → Nat
  | .lit (.string bytes) => bytes.length + 1
  | .lit _ => 1
  | .nil => 1
  | .ptr d => uptoBulk d + 1
  | .slice elems spare => uptoBulkAll elems + uptoBulkAll spare + 1
  | .agg parts => uptoBulkAll parts + 1
  | .iface _ d => uptoBulk d + 1
  | .map entries => uptoBulkEntries entries + 1
  | .held _ => 1
def uptoBulkAll {H : Type} : List (DataW H) → Nat
  | [] => 0
  | d :: r => uptoBulk d + uptoBulkAll r
def uptoBulkEntries {H : Type} : List (Lit × DataW H) → Nat
  | [] => 0
  | x :: r => uptoBulkEntry x + uptoBulkEntries r
def uptoBulkEntry {H : Type} : Lit × DataW H → Nat
  | (.string bytes, d) => bytes.length + uptoBulk d + 1
  | (_, d) => uptoBulk d + 1
 end
def uptoSmall : (H : Type) → List (DataW H) → Bool := fun _ ds => decide (uptoBulkAll ds ≤ 1048576)
def OpenSpec.upto (s : _root_.Go.ChangeSpec) : _root_.Go.OpenSpec := { _root_.Go.OpenSpec.ofChange s with cond := some uptoSmall }

/-- 'tabularylaw12.SpacePlays', WHERE WHAT IT READS IS OF BULK AT MOST 1048576: true; the input reads as it did. -/
def spacePlaysUptoRow : OpenClaim := { program := "ytjlennpoaefllaagreatdoor", sum := "5d76b66d9e6b52e93146f87fb3f1d09329473bbf819de4d58df08ab0a0abe850", func := "tabulary/tabularylaw12.SpacePlays", spec := "spacePlays", unfollowed := true, recurses := true, named := ["tabulary/crc.halves"], apart := false, laid := [("tabulary/crc.halves", laid_tabulary_crc_halves)], narrowed := true }
def SpacePlaysUptoSaid : Prop := spacePlaysUptoRow.holds Tryz.pinned (OpenSpec.upto spacePlaysSpec)

/-- 'tabularylaw13.BlobPlays', WHERE WHAT IT READS IS OF BULK AT MOST 1048576: true; the input reads as it did. -/
def blobPlaysUptoRow : OpenClaim := { program := "ytjlennpoaefllaagreatdoor", sum := "5d76b66d9e6b52e93146f87fb3f1d09329473bbf819de4d58df08ab0a0abe850", func := "tabulary/tabularylaw13.BlobPlays", spec := "blobPlays", unfollowed := true, recurses := true, named := ["tabulary/crc.halves"], apart := false, laid := [("tabulary/crc.halves", laid_tabulary_crc_halves)], narrowed := true }
def BlobPlaysUptoSaid : Prop := blobPlaysUptoRow.holds Tryz.pinned (OpenSpec.upto blobPlaysSpec)

/-- 'tabularylaw13.BlobSizes', WHERE WHAT IT READS IS OF BULK AT MOST 1048576: true; the input reads as it did. -/
def blobSizesUptoRow : OpenClaim := { program := "ytjlennpoaefllaagreatdoor", sum := "5d76b66d9e6b52e93146f87fb3f1d09329473bbf819de4d58df08ab0a0abe850", func := "tabulary/tabularylaw13.BlobSizes", spec := "blobSizes", unfollowed := true, recurses := true, named := ["tabulary/crc.halves"], apart := false, laid := [("tabulary/crc.halves", laid_tabulary_crc_halves)], narrowed := true }
def BlobSizesUptoSaid : Prop := blobSizesUptoRow.holds Tryz.pinned (OpenSpec.upto blobSizesSpec)

/-- 'tabularylaw13.BlobNobody', WHERE WHAT IT READS IS OF BULK AT MOST 1048576: true; the input reads as it did. -/
def blobNobodyUptoRow : OpenClaim := { program := "ytjlennpoaefllaagreatdoor", sum := "5d76b66d9e6b52e93146f87fb3f1d09329473bbf819de4d58df08ab0a0abe850", func := "tabulary/tabularylaw13.BlobNobody", spec := "blobNobody", unfollowed := true, recurses := true, named := ["tabulary/crc.halves"], apart := false, laid := [("tabulary/crc.halves", laid_tabulary_crc_halves)], narrowed := true }
def BlobNobodyUptoSaid : Prop := blobNobodyUptoRow.holds Tryz.pinned (OpenSpec.upto blobNobodySpec)

/-- 'tabularylaw13.BlobBack', WHERE WHAT IT READS IS OF BULK AT MOST 1048576: true; the input reads as it did. -/
def blobBackUptoRow : OpenClaim := { program := "ytjlennpoaefllaagreatdoor", sum := "5d76b66d9e6b52e93146f87fb3f1d09329473bbf819de4d58df08ab0a0abe850", func := "tabulary/tabularylaw13.BlobBack", spec := "blobBack", unfollowed := true, recurses := true, named := ["tabulary/crc.halves"], apart := false, laid := [("tabulary/crc.halves", laid_tabulary_crc_halves)], narrowed := true }
def BlobBackUptoSaid : Prop := blobBackUptoRow.holds Tryz.pinned (OpenSpec.upto blobBackSpec)

end Rows
end Go.Proofs.YtjlennpoaefllaaGreatDoor
