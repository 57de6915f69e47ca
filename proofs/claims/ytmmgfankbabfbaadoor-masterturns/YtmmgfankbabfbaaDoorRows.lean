/-
  NARROWER THAN 'FOR EVERY INPUT', by the rows' own cells (each row's printed sentence says how): MasterPlays: laid · MasterNobody: laid · MasterCrash: laid · MasterTurns: laid.
  DERIVED. THE GIVEN ROWS OF THIS SEAT. 4 by the template 'for every input the law returns true; each argument reads behind the call as it read before'; 0 by the template 'total and deterministic' (their statements: YtmmgfankbabfbaaDoorTotals.lean).
  GIVEN WITH THE SEED: the statements are not yours to turn. If you find one false, say at which input.
  Laid BY PROGRAM, IN A SANDBOX (cutbox-rows.mjs): the forced cells as the released guide's own fill.sh prints them over the translation cb690b5961d25f2c… (all of the seat's roots in one cut). By AI agents, Wed Nov 11 2026. No macro, syntax, notation, axiom, sorry.
-/
import Derived.Test.YtmmgfankbabfbaaDoorChecked
import GoSem.Claim
import GoSem.ClaimJoined
import GoSem.ClaimMapViews
import Derived.JoinedTies
import Derived.KernelRfl
namespace Go.Proofs.YtmmgfankbabfbaaDoor
/- THE CELL 'sum', in the pinned program and in every row, IS THE sha256 OF THE DUMP (.gsa) THAT YtmmgfankbabfbaaDoorProg.lean LOADS. Nothing in Lean hashes anything: it is a label: what it is worth is what the hold of that sum in a sandbox is worth. -/
noncomputable def Tryd.pinned : Pinned := { name := "ytmmgfankbabfbaadoor", sum := "cb690b5961d25f2c43c6a6b63f15b6ec03dbd0b2fd520e4d3591ecce3f085f8a", checked := Tryd.checked }
namespace Rows
def none {H : Type} : Left H := { results := [], args := [] }

/- WHAT THE LISTED PACKAGE-LEVEL VARIABLES READ AS WHEN THE CALL BEGINS. Each datum BY PROGRAM (the guide's laid-datum.mjs) off the statement by which the dump's own 'gosem.cut.vars' lays the variable. In a bare row this is a premise. The card (YtmmgfankbabfbaaDoorCards.lean) ties it to the program's text. -/
def laid_tabulary_crc_halves {H : Type} : DataW H := .agg [.lit (.int .u32 0), .lit (.int .u32 498536548), .lit (.int .u32 997073096), .lit (.int .u32 651767980), .lit (.int .u32 1994146192), .lit (.int .u32 1802195444), .lit (.int .u32 1303535960), .lit (.int .u32 1342533948), .lit (.int .u32 3988292384), .lit (.int .u32 4027552580), .lit (.int .u32 3604390888), .lit (.int .u32 3412177804), .lit (.int .u32 2607071920), .lit (.int .u32 2262029012), .lit (.int .u32 2685067896), .lit (.int .u32 3183342108)]

/-- 'tabularylaw10.MasterPlays': WHATEVER THE INPUT: true; the input reads as it did. -/
def masterPlaysSpec : ChangeSpec := { name := "masterPlays", fn := fun _ => fun
  | [d1, d2, d3] => { results := [.lit (.bool true)], args := [d1, d2, d3] }
  | _ => none }
def masterPlaysRow : OpenClaim := { program := "ytmmgfankbabfbaadoor", sum := "cb690b5961d25f2c43c6a6b63f15b6ec03dbd0b2fd520e4d3591ecce3f085f8a", func := "tabulary/tabularylaw10.MasterPlays", spec := "masterPlays", inPlace := ["maps.clone"], unfollowed := true, recurses := true, named := ["tabulary/crc.halves"], apart := false, laid := [("tabulary/crc.halves", laid_tabulary_crc_halves)] }
def MasterPlaysSaid : Prop := masterPlaysRow.holds Tryd.pinned (OpenSpec.ofChange masterPlaysSpec)

/-- ITS FALSE NEIGHBOUR: 'it returns false'. Refute it at one input. -/
def masterPlaysWrong : ChangeSpec := { name := "masterPlays", fn := fun _ => fun
  | [d1, d2, d3] => { results := [.lit (.bool false)], args := [d1, d2, d3] }
  | _ => none }
def MasterPlaysWrongFalsely : Prop := masterPlaysRow.holds Tryd.pinned (OpenSpec.ofChange masterPlaysWrong)

/-- 'tabularylaw10.MasterNobody': WHATEVER THE INPUT: true; the input reads as it did. -/
def masterNobodySpec : ChangeSpec := { name := "masterNobody", fn := fun _ => fun
  | [d1, d2, d3] => { results := [.lit (.bool true)], args := [d1, d2, d3] }
  | _ => none }
def masterNobodyRow : OpenClaim := { program := "ytmmgfankbabfbaadoor", sum := "cb690b5961d25f2c43c6a6b63f15b6ec03dbd0b2fd520e4d3591ecce3f085f8a", func := "tabulary/tabularylaw10.MasterNobody", spec := "masterNobody", unfollowed := true, recurses := true, named := ["tabulary/crc.halves"], apart := false, laid := [("tabulary/crc.halves", laid_tabulary_crc_halves)] }
def MasterNobodySaid : Prop := masterNobodyRow.holds Tryd.pinned (OpenSpec.ofChange masterNobodySpec)

/-- ITS FALSE NEIGHBOUR: 'it returns false'. Refute it at one input. -/
def masterNobodyWrong : ChangeSpec := { name := "masterNobody", fn := fun _ => fun
  | [d1, d2, d3] => { results := [.lit (.bool false)], args := [d1, d2, d3] }
  | _ => none }
def MasterNobodyWrongFalsely : Prop := masterNobodyRow.holds Tryd.pinned (OpenSpec.ofChange masterNobodyWrong)

/-- 'tabularylaw10.MasterCrash': WHATEVER THE INPUT: true; the input reads as it did. -/
def masterCrashSpec : ChangeSpec := { name := "masterCrash", fn := fun _ => fun
  | [d1, d2, d3, d4] => { results := [.lit (.bool true)], args := [d1, d2, d3, d4] }
  | _ => none }
def masterCrashRow : OpenClaim := { program := "ytmmgfankbabfbaadoor", sum := "cb690b5961d25f2c43c6a6b63f15b6ec03dbd0b2fd520e4d3591ecce3f085f8a", func := "tabulary/tabularylaw10.MasterCrash", spec := "masterCrash", inPlace := ["maps.clone"], unfollowed := true, recurses := true, named := ["tabulary/crc.halves"], apart := false, laid := [("tabulary/crc.halves", laid_tabulary_crc_halves)] }
def MasterCrashSaid : Prop := masterCrashRow.holds Tryd.pinned (OpenSpec.ofChange masterCrashSpec)

/-- ITS FALSE NEIGHBOUR: 'it returns false'. Refute it at one input. -/
def masterCrashWrong : ChangeSpec := { name := "masterCrash", fn := fun _ => fun
  | [d1, d2, d3, d4] => { results := [.lit (.bool false)], args := [d1, d2, d3, d4] }
  | _ => none }
def MasterCrashWrongFalsely : Prop := masterCrashRow.holds Tryd.pinned (OpenSpec.ofChange masterCrashWrong)

/-- 'tabularylaw10.MasterTurns': WHATEVER THE INPUT: true; the input reads as it did. -/
def masterTurnsSpec : ChangeSpec := { name := "masterTurns", fn := fun _ => fun
  | [d1, d2] => { results := [.lit (.bool true)], args := [d1, d2] }
  | _ => none }
def masterTurnsRow : OpenClaim := { program := "ytmmgfankbabfbaadoor", sum := "cb690b5961d25f2c43c6a6b63f15b6ec03dbd0b2fd520e4d3591ecce3f085f8a", func := "tabulary/tabularylaw10.MasterTurns", spec := "masterTurns", unfollowed := true, recurses := true, named := ["tabulary/crc.halves"], apart := false, laid := [("tabulary/crc.halves", laid_tabulary_crc_halves)] }
def MasterTurnsSaid : Prop := masterTurnsRow.holds Tryd.pinned (OpenSpec.ofChange masterTurnsSpec)

/-- ITS FALSE NEIGHBOUR: 'it returns false'. Refute it at one input. -/
def masterTurnsWrong : ChangeSpec := { name := "masterTurns", fn := fun _ => fun
  | [d1, d2] => { results := [.lit (.bool false)], args := [d1, d2] }
  | _ => none }
def MasterTurnsWrongFalsely : Prop := masterTurnsRow.holds Tryd.pinned (OpenSpec.ofChange masterTurnsWrong)

/- THE SECOND FORM. 'bulk': how many values and letters a reading holds, each counted each time it is reached (what is shared counts as often as it is met; a slice's spare places count too). A statement '..UptoSaid' is the law's where the arguments, and the package variables that the reading takes, are together of bulk at most 1048576: NARROWER than '..Said'. Prove '..Said' where nothing that the law and all that it calls make is longer than what came in: it says more and counts as full. Else prove '..UptoSaid'. A law counts once. -/
mutual
def uptoBulk {H : Type} : DataW H → Nat
  | .lit (.string bytes) => bytes.length + 1
  | .lit _ => 1
  | .nil => 1
  | .ptr d => uptoBulk d + 1
  | .slice elems spare => uptoBulkAll elems + uptoBulkAll spare + 1
  | .agg parts => uptoBulkAll parts + 1
  | .iface _ d => uptoBulk d + 1
  | .map entries => uptoBulkEntries entries + 1
  | .held _ => 1
def uptoBulkAll {H : Type} : List (DataW H) → Nat
  | [] => 0
  | d :: r => uptoBulk d + uptoBulkAll r
def uptoBulkEntries {H : Type} : List (Lit × DataW H) → Nat
  | [] => 0
  | x :: r => uptoBulkEntry x + uptoBulkEntries r
def uptoBulkEntry {H : Type} : Lit × DataW H → Nat
  | (.string bytes, d) => bytes.length + uptoBulk d + 1
  | (_, d) => uptoBulk d + 1
 end
def uptoSmall : (H : Type) → List (DataW H) → Bool := fun _ ds => decide (uptoBulkAll ds ≤ 1048576)
def OpenSpec.upto (s : _root_.Go.ChangeSpec) : _root_.Go.OpenSpec := { _root_.Go.OpenSpec.ofChange s with cond := some uptoSmall }

/-- 'tabularylaw10.MasterPlays', WHERE WHAT IT READS IS OF BULK AT MOST 1048576: true; the input reads as it did. -/
def masterPlaysUptoRow : OpenClaim := { program := "ytmmgfankbabfbaadoor", sum := "cb690b5961d25f2c43c6a6b63f15b6ec03dbd0b2fd520e4d3591ecce3f085f8a", func := "tabulary/tabularylaw10.MasterPlays", spec := "masterPlays", inPlace := ["maps.clone"], unfollowed := true, recurses := true, named := ["tabulary/crc.halves"], apart := false, laid := [("tabulary/crc.halves", laid_tabulary_crc_halves)], narrowed := true }
def MasterPlaysUptoSaid : Prop := masterPlaysUptoRow.holds Tryd.pinned (OpenSpec.upto masterPlaysSpec)

/-- 'tabularylaw10.MasterNobody', WHERE WHAT IT READS IS OF BULK AT MOST 1048576: true; the input reads as it did. -/
def masterNobodyUptoRow : OpenClaim := { program := "ytmmgfankbabfbaadoor", sum := "cb690b5961d25f2c43c6a6b63f15b6ec03dbd0b2fd520e4d3591ecce3f085f8a", func := "tabulary/tabularylaw10.MasterNobody", spec := "masterNobody", unfollowed := true, recurses := true, named := ["tabulary/crc.halves"], apart := false, laid := [("tabulary/crc.halves", laid_tabulary_crc_halves)], narrowed := true }
def MasterNobodyUptoSaid : Prop := masterNobodyUptoRow.holds Tryd.pinned (OpenSpec.upto masterNobodySpec)

/-- 'tabularylaw10.MasterCrash', WHERE WHAT IT READS IS OF BULK AT MOST 1048576: true; the input reads as it did. -/
def masterCrashUptoRow : OpenClaim := { program := "ytmmgfankbabfbaadoor", sum := "cb690b5961d25f2c43c6a6b63f15b6ec03dbd0b2fd520e4d3591ecce3f085f8a", func := "tabulary/tabularylaw10.MasterCrash", spec := "masterCrash", inPlace := ["maps.clone"], unfollowed := true, recurses := true, named := ["tabulary/crc.halves"], apart := false, laid := [("tabulary/crc.halves", laid_tabulary_crc_halves)], narrowed := true }
def MasterCrashUptoSaid : Prop := masterCrashUptoRow.holds Tryd.pinned (OpenSpec.upto masterCrashSpec)

/-- 'tabularylaw10.MasterTurns', WHERE WHAT IT READS IS OF BULK AT MOST 1048576: true; the input reads as it did. -/
def masterTurnsUptoRow : OpenClaim := { program := "ytmmgfankbabfbaadoor", sum := "cb690b5961d25f2c43c6a6b63f15b6ec03dbd0b2fd520e4d3591ecce3f085f8a", func := "tabulary/tabularylaw10.MasterTurns", spec := "masterTurns", unfollowed := true, recurses := true, named := ["tabulary/crc.halves"], apart := false, laid := [("tabulary/crc.halves", laid_tabulary_crc_halves)], narrowed := true }
def MasterTurnsUptoSaid : Prop := masterTurnsUptoRow.holds Tryd.pinned (OpenSpec.upto masterTurnsSpec)

end Rows
end Go.Proofs.YtmmgfankbabfbaaDoor
