/- Texts put together: Base, Base2. -/
import Derived.Test.YtjlennpoaefllaaGreatDoorRows
import Derived.Test.YtjlennpoaefllaaGreatDoorQ09
import Derived.ProofKit
import Derived.LaidMore
import Derived.OpenShut
import Derived.Stop.Joined
import Derived.Lib.LaidTab
/- What every row's frame asks: the table as it is laid, the door's own heap, bytes that came in. -/
namespace Go.Proofs.YtjlennpoaefllaaGreatDoor
open Go.ChangeShapes Go.WideShapes Go.ChangeAt Go.RowKit

set_option maxRecDepth 100000 in
theorem own : ownKnob Tryz.prog.godebug = none := by kernel_rfl
set_option maxRecDepth 100000 in
theorem laidOut : laidOutB Tryz.prog = true := by kernel_rfl
set_option maxRecDepth 100000 in
theorem gHalves : Tryz.prog.globalNamed "tabulary/crc.halves" = some 0 := by kernel_rfl
set_option maxRecDepth 100000 in
theorem tHalves : (Tryz.prog.globals[0]?).map (·.type) = some 220 := by kernel_rfl
set_option maxRecDepth 100000 in
theorem c23 : Tryz.prog.cellsOf 190 = 1 := by kernel_rfl
set_option maxRecDepth 100000 in
theorem c45 : Tryz.prog.cellsOf 220 = 16 := by kernel_rfl
set_option maxRecDepth 100000 in
theorem c5 : Tryz.prog.cellsOf 5 = 1 := by kernel_rfl
set_option maxRecDepth 100000 in
theorem u45 : Tryz.prog.underlying 220 = some (.array 16 190) := by kernel_rfl

abbrev laid1 : List (String × DataW Unit) := [("tabulary/crc.halves", Rows.laid_tabulary_crc_halves)]

/-- The door's own heap meets the condition. -/
theorem door_met (os : Os) (args : Array Value) : laidMetH Tryz.prog laid1 ((World.doorLaid Tryz.prog 14 os).forCall (fun _ _ => 0) ⟨#[], args, []⟩).memory :=
  laidMetH_of_parts3 (fuel := 8) (laidMet_of_run' 8 (by kernel_rfl) (by kernel_rfl)) (by kernel_rfl) (by kernel_rfl)

set_option maxRecDepth 100000 in
/-- What the condition gives the walks: the table. -/
theorem tab_of_laid {W : World} (h : laidMetH Tryz.prog laid1 W) : Tab W := by
  rw [MakeChecks.laidMetH_plain _ _ _ (by kernel_rfl)] at h
  have hT := Lib.tabIs_of_head (k := .u32) (zs := C.tab.map (fun n : Nat => (n : Int))) (rest := []) gHalves tHalves u45 Tryz.underlying190 c23 c45 h
  intro j hj
  have := hT.cell gHalves j (by simp [C.tab]; omega)
  rw [this]
  simp [List.getD]
  cases C.tab[j]? <;> rfl

end Go.Proofs.YtjlennpoaefllaaGreatDoor

/- Numbers that came in. -/
namespace Go.Proofs.YtjlennpoaefllaaGreatDoor
open Go.ChangeShapes Go.WideShapes Go.ChangeAt Go.RowKit

end Go.Proofs.YtjlennpoaefllaaGreatDoor
