/-
  No cell of these rows narrows 'for every input' (looked for: loops, veiled, ifaces, maps, wideKeys, modest, calm, conditions, laid).
  DERIVED. THE GIVEN ROWS OF THIS SEAT. 4 by the template 'for every input the law returns true; each argument reads behind the call as it read before'; 0 by the template 'total and deterministic' (their statements: YtjmldloalieelaaTotals.lean).
  GIVEN WITH THE SEED: the statements are not yours to turn. If you find one false, say at which input.
  Laid BY PROGRAM, IN A SANDBOX (cutbox-rows.mjs): the forced cells as the released guide's own fill.sh prints them over the translation 90d4f04ff4d4cab9… (all of the seat's roots in one cut). By AI agents, Wed Nov 11 2026. No macro, syntax, notation, axiom, sorry.
-/
import Derived.Test.YtjmldloalieelaaChecked
import GoSem.Claim
import GoSem.ClaimJoined
import GoSem.ClaimMapViews
import Derived.JoinedTies
import Derived.KernelRfl
namespace Go.Proofs.Ytjmldloalieelaa
/- THE CELL 'sum', in the pinned program and in every row, IS THE sha256 OF THE DUMP (.gsa) THAT YtjmldloalieelaaProg.lean LOADS. Nothing in Lean hashes anything: it is a label: what it is worth is what the hold of that sum in a sandbox is worth. -/
noncomputable def Try.pinned : Pinned := { name := "ytjmldloalieelaa", sum := "90d4f04ff4d4cab90c17ca5cbf0661ae4bad964c2c0e7cf202bb7c483876e718", checked := Try.checked }
namespace Rows
def none {H : Type} : Left H := { results := [], args := [] }

/-- 'tabularylaw04.ValueCalcs': WHATEVER THE INPUT: true; the input reads as it did. -/
def valueCalcsSpec : ChangeSpec := { name := "valueCalcs", fn := fun _ => fun
  | [d1, d2, d3] => { results := [.lit (.bool true)], args := [d1, d2, d3] }
  | _ => none }
def valueCalcsRow : OpenClaim := { program := "ytjmldloalieelaa", sum := "90d4f04ff4d4cab90c17ca5cbf0661ae4bad964c2c0e7cf202bb7c483876e718", func := "tabulary/tabularylaw04.ValueCalcs", spec := "valueCalcs", inPlace := ["math.Float64frombits", "math.Float64bits"], apart := false }
def ValueCalcsSaid : Prop := valueCalcsRow.holds Try.pinned (OpenSpec.ofChange valueCalcsSpec)

/-- ITS FALSE NEIGHBOUR: 'it returns false'. Refute it at one input. -/
def valueCalcsWrong : ChangeSpec := { name := "valueCalcs", fn := fun _ => fun
  | [d1, d2, d3] => { results := [.lit (.bool false)], args := [d1, d2, d3] }
  | _ => none }
def ValueCalcsWrongFalsely : Prop := valueCalcsRow.holds Try.pinned (OpenSpec.ofChange valueCalcsWrong)

/-- 'tabularylaw04.ValueTotal': WHATEVER THE INPUT: true; the input reads as it did. -/
def valueTotalSpec : ChangeSpec := { name := "valueTotal", fn := fun _ => fun
  | [d1, d2, d3] => { results := [.lit (.bool true)], args := [d1, d2, d3] }
  | _ => none }
def valueTotalRow : OpenClaim := { program := "ytjmldloalieelaa", sum := "90d4f04ff4d4cab90c17ca5cbf0661ae4bad964c2c0e7cf202bb7c483876e718", func := "tabulary/tabularylaw04.ValueTotal", spec := "valueTotal", inPlace := ["math.Float64frombits", "math.Float64bits"], apart := false }
def ValueTotalSaid : Prop := valueTotalRow.holds Try.pinned (OpenSpec.ofChange valueTotalSpec)

/-- ITS FALSE NEIGHBOUR: 'it returns false'. Refute it at one input. -/
def valueTotalWrong : ChangeSpec := { name := "valueTotal", fn := fun _ => fun
  | [d1, d2, d3] => { results := [.lit (.bool false)], args := [d1, d2, d3] }
  | _ => none }
def ValueTotalWrongFalsely : Prop := valueTotalRow.holds Try.pinned (OpenSpec.ofChange valueTotalWrong)

/-- 'tabularylaw04.ValueBack': WHATEVER THE INPUT: true; the input reads as it did. -/
def valueBackSpec : ChangeSpec := { name := "valueBack", fn := fun _ => fun
  | [d1, d2] => { results := [.lit (.bool true)], args := [d1, d2] }
  | _ => none }
def valueBackRow : OpenClaim := { program := "ytjmldloalieelaa", sum := "90d4f04ff4d4cab90c17ca5cbf0661ae4bad964c2c0e7cf202bb7c483876e718", func := "tabulary/tabularylaw04.ValueBack", spec := "valueBack", inPlace := ["math.Float64frombits", "math.Float64bits"], apart := false }
def ValueBackSaid : Prop := valueBackRow.holds Try.pinned (OpenSpec.ofChange valueBackSpec)

/-- ITS FALSE NEIGHBOUR: 'it returns false'. Refute it at one input. -/
def valueBackWrong : ChangeSpec := { name := "valueBack", fn := fun _ => fun
  | [d1, d2] => { results := [.lit (.bool false)], args := [d1, d2] }
  | _ => none }
def ValueBackWrongFalsely : Prop := valueBackRow.holds Try.pinned (OpenSpec.ofChange valueBackWrong)

/-- 'tabularylaw04.ValueAlgebra': WHATEVER THE INPUT: true; the input reads as it did. -/
def valueAlgebraSpec : ChangeSpec := { name := "valueAlgebra", fn := fun _ => fun
  | [d1, d2] => { results := [.lit (.bool true)], args := [d1, d2] }
  | _ => none }
def valueAlgebraRow : OpenClaim := { program := "ytjmldloalieelaa", sum := "90d4f04ff4d4cab90c17ca5cbf0661ae4bad964c2c0e7cf202bb7c483876e718", func := "tabulary/tabularylaw04.ValueAlgebra", spec := "valueAlgebra", inPlace := ["math.Float64frombits", "math.Float64bits"], apart := false }
def ValueAlgebraSaid : Prop := valueAlgebraRow.holds Try.pinned (OpenSpec.ofChange valueAlgebraSpec)

/-- ITS FALSE NEIGHBOUR: 'it returns false'. Refute it at one input. -/
def valueAlgebraWrong : ChangeSpec := { name := "valueAlgebra", fn := fun _ => fun
  | [d1, d2] => { results := [.lit (.bool false)], args := [d1, d2] }
  | _ => none }
def ValueAlgebraWrongFalsely : Prop := valueAlgebraRow.holds Try.pinned (OpenSpec.ofChange valueAlgebraWrong)

/- THE SECOND FORM. 'bulk': how many values and letters a reading holds, each counted each time it is reached (what is shared counts as often as it is met; a slice's spare places count too). A statement '..UptoSaid' is the law's where the arguments, and the package variables that the reading takes, are together of bulk at most 1048576: NARROWER than '..Said'. Prove '..Said' where nothing that the law and all that it calls make is longer than what came in: it says more and counts as full. Else prove '..UptoSaid'. A law counts once. -/
mutual
def uptoBulk {H : Type} : DataW H → Nat
  | .lit (.string bytes) => bytes.length + 1
  | .lit _ => 1
  | .nil => 1
  | .ptr d => uptoBulk d + 1
  | .slice elems spare => uptoBulkAll elems + uptoBulkAll spare + 1
  | .agg parts => uptoBulkAll parts + 1
  | .iface _ d => uptoBulk d + 1
  | .map entries => uptoBulkEntries entries + 1
  | .held _ => 1
def uptoBulkAll {H : Type} : List (DataW H) → Nat
  | [] => 0
  | d :: r => uptoBulk d + uptoBulkAll r
def uptoBulkEntries {H : Type} : List (Lit × DataW H) → Nat
  | [] => 0
  | x :: r => uptoBulkEntry x + uptoBulkEntries r
def uptoBulkEntry {H : Type} : Lit × DataW H → Nat
  | (.string bytes, d) => bytes.length + uptoBulk d + 1
  | (_, d) => uptoBulk d + 1
 end
def uptoSmall : (H : Type) → List (DataW H) → Bool := fun _ ds => decide (uptoBulkAll ds ≤ 1048576)
def OpenSpec.upto (s : _root_.Go.ChangeSpec) : _root_.Go.OpenSpec := { _root_.Go.OpenSpec.ofChange s with cond := some uptoSmall }

/-- 'tabularylaw04.ValueCalcs', WHERE WHAT IT READS IS OF BULK AT MOST 1048576: true; the input reads as it did. -/
def valueCalcsUptoRow : OpenClaim := { program := "ytjmldloalieelaa", sum := "90d4f04ff4d4cab90c17ca5cbf0661ae4bad964c2c0e7cf202bb7c483876e718", func := "tabulary/tabularylaw04.ValueCalcs", spec := "valueCalcs", inPlace := ["math.Float64frombits", "math.Float64bits"], apart := false, narrowed := true }
def ValueCalcsUptoSaid : Prop := valueCalcsUptoRow.holds Try.pinned (OpenSpec.upto valueCalcsSpec)

/-- 'tabularylaw04.ValueTotal', WHERE WHAT IT READS IS OF BULK AT MOST 1048576: true; the input reads as it did. -/
def valueTotalUptoRow : OpenClaim := { program := "ytjmldloalieelaa", sum := "90d4f04ff4d4cab90c17ca5cbf0661ae4bad964c2c0e7cf202bb7c483876e718", func := "tabulary/tabularylaw04.ValueTotal", spec := "valueTotal", inPlace := ["math.Float64frombits", "math.Float64bits"], apart := false, narrowed := true }
def ValueTotalUptoSaid : Prop := valueTotalUptoRow.holds Try.pinned (OpenSpec.upto valueTotalSpec)

/-- 'tabularylaw04.ValueBack', WHERE WHAT IT READS IS OF BULK AT MOST 1048576: true; the input reads as it did. -/
def valueBackUptoRow : OpenClaim := { program := "ytjmldloalieelaa", sum := "90d4f04ff4d4cab90c17ca5cbf0661ae4bad964c2c0e7cf202bb7c483876e718", func := "tabulary/tabularylaw04.ValueBack", spec := "valueBack", inPlace := ["math.Float64frombits", "math.Float64bits"], apart := false, narrowed := true }
def ValueBackUptoSaid : Prop := valueBackUptoRow.holds Try.pinned (OpenSpec.upto valueBackSpec)

/-- 'tabularylaw04.ValueAlgebra', WHERE WHAT IT READS IS OF BULK AT MOST 1048576: true; the input reads as it did. -/
def valueAlgebraUptoRow : OpenClaim := { program := "ytjmldloalieelaa", sum := "90d4f04ff4d4cab90c17ca5cbf0661ae4bad964c2c0e7cf202bb7c483876e718", func := "tabulary/tabularylaw04.ValueAlgebra", spec := "valueAlgebra", inPlace := ["math.Float64frombits", "math.Float64bits"], apart := false, narrowed := true }
def ValueAlgebraUptoSaid : Prop := valueAlgebraUptoRow.holds Try.pinned (OpenSpec.upto valueAlgebraSpec)

end Rows
end Go.Proofs.Ytjmldloalieelaa
