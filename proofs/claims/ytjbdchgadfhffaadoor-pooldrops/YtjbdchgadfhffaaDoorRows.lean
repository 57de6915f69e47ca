/-
  NARROWER THAN 'FOR EVERY INPUT', by the rows' own cells (each row's printed sentence says how): PoolNobody: laid · PoolDrops: laid · PoolLasts: laid · PoolAges: laid.
  DERIVED. THE GIVEN ROWS OF THIS SEAT. 4 by the template 'for every input the law returns true; each argument reads behind the call as it read before'; 0 by the template 'total and deterministic' (their statements: YtjbdchgadfhffaaDoorTotals.lean).
  GIVEN WITH THE SEED: the statements are not yours to turn. If you find one false, say at which input.
  Laid BY PROGRAM, IN A SANDBOX (cutbox-rows.mjs): the forced cells as the released guide's own fill.sh prints them over the translation f4bbe0777f8d874c… (all of the seat's roots in one cut). By AI agents, Wed Nov 11 2026. No macro, syntax, notation, axiom, sorry.
-/
import Derived.Test.YtjbdchgadfhffaaDoorChecked
import GoSem.Claim
import GoSem.ClaimJoined
import GoSem.ClaimMapViews
import Derived.JoinedTies
import Derived.KernelRfl
namespace Go.Proofs.YtjbdchgadfhffaaDoor
/- THE CELL 'sum', in the pinned program and in every row, IS THE sha256 OF THE DUMP (.gsa) THAT YtjbdchgadfhffaaDoorProg.lean LOADS. Nothing in Lean hashes anything: it is a label: what it is worth is what the hold of that sum in a sandbox is worth. -/
noncomputable def Tryd.pinned : Pinned := { name := "ytjbdchgadfhffaadoor", sum := "f4bbe0777f8d874c96e48a62a0bd5046f12d7112afb9171b9c4b88b981c8d646", checked := Tryd.checked }
namespace Rows
def none {H : Type} : Left H := { results := [], args := [] }

/- WHAT THE LISTED PACKAGE-LEVEL VARIABLES READ AS WHEN THE CALL BEGINS. Each datum BY PROGRAM (the guide's laid-datum.mjs) off the statement by which the dump's own 'gosem.cut.vars' lays the variable. In a bare row this is a premise. The card (YtjbdchgadfhffaaDoorCards.lean) ties it to the program's text. -/
def laid_tabulary_crc_halves {H : Type} : DataW H := .agg [.lit (.int .u32 0), .lit (.int .u32 498536548), .lit (.int .u32 997073096), .lit (.int .u32 651767980), .lit (.int .u32 1994146192), .lit (.int .u32 1802195444), .lit (.int .u32 1303535960), .lit (.int .u32 1342533948), .lit (.int .u32 3988292384), .lit (.int .u32 4027552580), .lit (.int .u32 3604390888), .lit (.int .u32 3412177804), .lit (.int .u32 2607071920), .lit (.int .u32 2262029012), .lit (.int .u32 2685067896), .lit (.int .u32 3183342108)]

/-- 'tabularylaw11.PoolNobody': WHATEVER THE INPUT: true; the input reads as it did. -/
def poolNobodySpec : ChangeSpec := { name := "poolNobody", fn := fun _ => fun
  | [d1, d2, d3, d4] => { results := [.lit (.bool true)], args := [d1, d2, d3, d4] }
  | _ => none }
def poolNobodyRow : OpenClaim := { program := "ytjbdchgadfhffaadoor", sum := "f4bbe0777f8d874c96e48a62a0bd5046f12d7112afb9171b9c4b88b981c8d646", func := "tabulary/tabularylaw11.PoolNobody", spec := "poolNobody", unfollowed := true, recurses := true, named := ["tabulary/crc.halves"], apart := false, laid := [("tabulary/crc.halves", laid_tabulary_crc_halves)] }
def PoolNobodySaid : Prop := poolNobodyRow.holds Tryd.pinned (OpenSpec.ofChange poolNobodySpec)

/-- ITS FALSE NEIGHBOUR: 'it returns false'. Refute it at one input. -/
def poolNobodyWrong : ChangeSpec := { name := "poolNobody", fn := fun _ => fun
  | [d1, d2, d3, d4] => { results := [.lit (.bool false)], args := [d1, d2, d3, d4] }
  | _ => none }
def PoolNobodyWrongFalsely : Prop := poolNobodyRow.holds Tryd.pinned (OpenSpec.ofChange poolNobodyWrong)

/-- 'tabularylaw11.PoolDrops': WHATEVER THE INPUT: true; the input reads as it did. -/
def poolDropsSpec : ChangeSpec := { name := "poolDrops", fn := fun _ => fun
  | [d] => { results := [.lit (.bool true)], args := [d] }
  | _ => none }
def poolDropsRow : OpenClaim := { program := "ytjbdchgadfhffaadoor", sum := "f4bbe0777f8d874c96e48a62a0bd5046f12d7112afb9171b9c4b88b981c8d646", func := "tabulary/tabularylaw11.PoolDrops", spec := "poolDrops", unfollowed := true, recurses := true, named := ["tabulary/crc.halves"], apart := false, laid := [("tabulary/crc.halves", laid_tabulary_crc_halves)] }
def PoolDropsSaid : Prop := poolDropsRow.holds Tryd.pinned (OpenSpec.ofChange poolDropsSpec)

/-- ITS FALSE NEIGHBOUR: 'it returns false'. Refute it at one input. -/
def poolDropsWrong : ChangeSpec := { name := "poolDrops", fn := fun _ => fun
  | [d] => { results := [.lit (.bool false)], args := [d] }
  | _ => none }
def PoolDropsWrongFalsely : Prop := poolDropsRow.holds Tryd.pinned (OpenSpec.ofChange poolDropsWrong)

/-- 'tabularylaw11.PoolLasts': WHATEVER THE INPUT: true; the input reads as it did. -/
def poolLastsSpec : ChangeSpec := { name := "poolLasts", fn := fun _ => fun
  | [d1, d2] => { results := [.lit (.bool true)], args := [d1, d2] }
  | _ => none }
def poolLastsRow : OpenClaim := { program := "ytjbdchgadfhffaadoor", sum := "f4bbe0777f8d874c96e48a62a0bd5046f12d7112afb9171b9c4b88b981c8d646", func := "tabulary/tabularylaw11.PoolLasts", spec := "poolLasts", unfollowed := true, recurses := true, named := ["tabulary/crc.halves"], apart := false, laid := [("tabulary/crc.halves", laid_tabulary_crc_halves)] }
def PoolLastsSaid : Prop := poolLastsRow.holds Tryd.pinned (OpenSpec.ofChange poolLastsSpec)

/-- ITS FALSE NEIGHBOUR: 'it returns false'. Refute it at one input. -/
def poolLastsWrong : ChangeSpec := { name := "poolLasts", fn := fun _ => fun
  | [d1, d2] => { results := [.lit (.bool false)], args := [d1, d2] }
  | _ => none }
def PoolLastsWrongFalsely : Prop := poolLastsRow.holds Tryd.pinned (OpenSpec.ofChange poolLastsWrong)

/-- 'tabularylaw11.PoolAges': WHATEVER THE INPUT: true; the input reads as it did. -/
def poolAgesSpec : ChangeSpec := { name := "poolAges", fn := fun _ => fun
  | [d1, d2] => { results := [.lit (.bool true)], args := [d1, d2] }
  | _ => none }
def poolAgesRow : OpenClaim := { program := "ytjbdchgadfhffaadoor", sum := "f4bbe0777f8d874c96e48a62a0bd5046f12d7112afb9171b9c4b88b981c8d646", func := "tabulary/tabularylaw11.PoolAges", spec := "poolAges", unfollowed := true, recurses := true, named := ["tabulary/crc.halves"], apart := false, laid := [("tabulary/crc.halves", laid_tabulary_crc_halves)] }
def PoolAgesSaid : Prop := poolAgesRow.holds Tryd.pinned (OpenSpec.ofChange poolAgesSpec)

/-- ITS FALSE NEIGHBOUR: 'it returns false'. Refute it at one input. -/
def poolAgesWrong : ChangeSpec := { name := "poolAges", fn := fun _ => fun
  | [d1, d2] => { results := [.lit (.bool false)], args := [d1, d2] }
  | _ => none }
def PoolAgesWrongFalsely : Prop := poolAgesRow.holds Tryd.pinned (OpenSpec.ofChange poolAgesWrong)

/- THE SECOND FORM. 'bulk': how many values and letters a reading holds, each counted each time it is reached (what is shared counts as often as it is met; a slice's spare places count too). A statement '..UptoSaid' is the law's where the arguments, and the package variables that the reading takes, are together of bulk at most 1048576: NARROWER than '..Said'. Prove '..Said' where nothing that the law and all that it calls make is longer than what came in: it says more and counts as full. Else prove '..UptoSaid'. A law counts once. -/
mutual
def uptoBulk {H : Type} : DataW H → Nat
  | .lit (.string bytes) => bytes.length + 1
  | .lit _ => 1
  | .nil => 1
  | .ptr d => uptoBulk d + 1
  | .slice elems spare => uptoBulkAll elems + uptoBulkAll spare + 1
  | .agg parts => uptoBulkAll parts + 1
  | .iface _ d => uptoBulk d + 1
  | .map entries => uptoBulkEntries entries + 1
  | .held _ => 1
def uptoBulkAll {H : Type} : List (DataW H) → Nat
  | [] => 0
  | d :: r => uptoBulk d + uptoBulkAll r
def uptoBulkEntries {H : Type} : List (Lit × DataW H) → Nat
  | [] => 0
  | x :: r => uptoBulkEntry x + uptoBulkEntries r
def uptoBulkEntry {H : Type} : Lit × DataW H → Nat
  | (.string bytes, d) => bytes.length + uptoBulk d + 1
  | (_, d) => uptoBulk d + 1
 end
def uptoSmall : (H : Type) → List (DataW H) → Bool := fun _ ds => decide (uptoBulkAll ds ≤ 1048576)
def OpenSpec.upto (s : _root_.Go.ChangeSpec) : _root_.Go.OpenSpec := { _root_.Go.OpenSpec.ofChange s with cond := some uptoSmall }

/-- 'tabularylaw11.PoolNobody', WHERE WHAT IT READS IS OF BULK AT MOST 1048576: true; the input reads as it did. -/
def poolNobodyUptoRow : OpenClaim := { program := "ytjbdchgadfhffaadoor", sum := "f4bbe0777f8d874c96e48a62a0bd5046f12d7112afb9171b9c4b88b981c8d646", func := "tabulary/tabularylaw11.PoolNobody", spec := "poolNobody", unfollowed := true, recurses := true, named := ["tabulary/crc.halves"], apart := false, laid := [("tabulary/crc.halves", laid_tabulary_crc_halves)], narrowed := true }
def PoolNobodyUptoSaid : Prop := poolNobodyUptoRow.holds Tryd.pinned (OpenSpec.upto poolNobodySpec)

/-- 'tabularylaw11.PoolDrops', WHERE WHAT IT READS IS OF BULK AT MOST 1048576: true; the input reads as it did. -/
def poolDropsUptoRow : OpenClaim := { program := "ytjbdchgadfhffaadoor", sum := "f4bbe0777f8d874c96e48a62a0bd5046f12d7112afb9171b9c4b88b981c8d646", func := "tabulary/tabularylaw11.PoolDrops", spec := "poolDrops", unfollowed := true, recurses := true, named := ["tabulary/crc.halves"], apart := false, laid := [("tabulary/crc.halves", laid_tabulary_crc_halves)], narrowed := true }
def PoolDropsUptoSaid : Prop := poolDropsUptoRow.holds Tryd.pinned (OpenSpec.upto poolDropsSpec)

/-- 'tabularylaw11.PoolLasts', WHERE WHAT IT READS IS OF BULK AT MOST 1048576: true; the input reads as it did. -/
def poolLastsUptoRow : OpenClaim := { program := "ytjbdchgadfhffaadoor", sum := "f4bbe0777f8d874c96e48a62a0bd5046f12d7112afb9171b9c4b88b981c8d646", func := "tabulary/tabularylaw11.PoolLasts", spec := "poolLasts", unfollowed := true, recurses := true, named := ["tabulary/crc.halves"], apart := false, laid := [("tabulary/crc.halves", laid_tabulary_crc_halves)], narrowed := true }
def PoolLastsUptoSaid : Prop := poolLastsUptoRow.holds Tryd.pinned (OpenSpec.upto poolLastsSpec)

/-- 'tabularylaw11.PoolAges', WHERE WHAT IT READS IS OF BULK AT MOST 1048576: true; the input reads as it did. -/
def poolAgesUptoRow : OpenClaim := { program := "ytjbdchgadfhffaadoor", sum := "f4bbe0777f8d874c96e48a62a0bd5046f12d7112afb9171b9c4b88b981c8d646", func := "tabulary/tabularylaw11.PoolAges", spec := "poolAges", unfollowed := true, recurses := true, named := ["tabulary/crc.halves"], apart := false, laid := [("tabulary/crc.halves", laid_tabulary_crc_halves)], narrowed := true }
def PoolAgesUptoSaid : Prop := poolAgesUptoRow.holds Tryd.pinned (OpenSpec.upto poolAgesSpec)

end Rows
end Go.Proofs.YtjbdchgadfhffaaDoor
