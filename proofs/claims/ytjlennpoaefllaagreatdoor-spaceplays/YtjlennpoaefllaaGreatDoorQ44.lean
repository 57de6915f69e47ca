/- Texts put together: Base, Base2. -/
import Derived.Test.YtjlennpoaefllaaGreatDoorRows
import Derived.Test.YtjlennpoaefllaaGreatDoorQ09
import Derived.ProofKit
import Derived.LaidMore
import Derived.OpenShut
import Derived.Stop.Joined
import Derived.Lib.LaidTab
/- What every row's frame asks: the table as it is laid, the door's own heap, bytes that came in. -/
namespace Go.Proofs.YtjlennpoaefllaaGreatDoor
open Go.ChangeShapes Go.WideShapes Go.ChangeAt Go.RowKit

set_option maxRecDepth 100000 in
theorem own : ownKnob Tryz.prog.godebug = none := by kernel_rfl
set_option maxRecDepth 100000 in
theorem laidOut : laidOutB Tryz.prog = true := by kernel_rfl
set_option maxRecDepth 100000 in
theorem gHalves : Tryz.prog.globalNamed "tabulary/crc.halves" = some 0 := by kernel_rfl
set_option maxRecDepth 100000 in
theorem tHalves : (Tryz.prog.globals[0]?).map (·.type) = some 220 := by kernel_rfl
set_option maxRecDepth 100000 in
theorem c23 : Tryz.prog.cellsOf 190 = 1 := by kernel_rfl
set_option maxRecDepth 100000 in
theorem c45 : Tryz.prog.cellsOf 220 = 16 := by kernel_rfl
set_option maxRecDepth 100000 in
theorem c5 : Tryz.prog.cellsOf 5 = 1 := by kernel_rfl
set_option maxRecDepth 100000 in
theorem u45 : Tryz.prog.underlying 220 = some (.array 16 190) := by kernel_rfl

abbrev laid1 : List (String × DataW Unit) := [("tabulary/crc.halves", Rows.laid_tabulary_crc_halves)]

/-- The door's own heap meets the condition. -/
theorem door_met (os : Os) (args : Array Value) : laidMetH Tryz.prog laid1 ((World.doorLaid Tryz.prog 14 os).forCall (fun _ _ => 0) ⟨#[], args, []⟩).memory :=
  laidMetH_of_parts3 (fuel := 8) (laidMet_of_run' 8 (by kernel_rfl) (by kernel_rfl)) (by kernel_rfl) (by kernel_rfl)

set_option maxRecDepth 100000 in
/-- What the condition gives the walks: the table. -/
theorem tab_of_laid {W : World} (h : laidMetH Tryz.prog laid1 W) : Tab W := by
  rw [MakeChecks.laidMetH_plain _ _ _ (by kernel_rfl)] at h
  have hT := Lib.tabIs_of_head (k := .u32) (zs := C.tab.map (fun n : Nat => (n : Int))) (rest := []) gHalves tHalves u45 Tryz.underlying190 c23 c45 h
  intro j hj
  have := hT.cell gHalves j (by simp [C.tab]; omega)
  rw [this]
  simp [List.getD]
  cases C.tab[j]? <;> rfl

set_option maxRecDepth 100000 in
/-- Bytes that came in: where they lie. -/
theorem bytes_at {H : Type} {enc : TypeId × Value → H} {W : World} {a : Option Addr} {len cap : Nat} {d : DataW H} {p : List MemPlace} (h1 : DataW.Trod enc Tryz.prog W 0 (fun _ => true) true 43 (.slice a len cap) d p) :
    ∃ bs : List UInt8, len = bs.length ∧ At W a bs ∧ (a = none → cap = 0) ∧ len ≤ cap ∧ cap ≤ maxLen := by
  obtain ⟨fuel, hf⟩ := h1
  rcases open_ints Tryz.underlying43 Tryz.underlying5 c5 hf with ⟨hcs, _⟩ | ⟨x, l, c, zs, hcs, _, hl, hm, hz, _, hcell, hwz⟩
  · simp [Value.cells] at hcs
    obtain ⟨rfl, rfl, rfl⟩ := hcs
    exact ⟨[], rfl, At.nil _ _, fun _ => rfl, Nat.le_refl _, Nat.zero_le _⟩
  · simp [Value.cells] at hcs
    obtain ⟨rfl, rfl, rfl⟩ := hcs
    have hz' : zs.length = cap := by simpa using hz
    refine ⟨(zs.take len).map (fun z => UInt8.ofNat z.toNat), by simp; omega, ?_, (fun e => by cases e), hl, hm⟩
    intro j c hj
    rw [List.getElem?_map, List.getElem?_take] at hj
    split at hj
    · rename_i hjl
      have hjz : j < zs.length := by omega
      have hc := hcell j hjz
      have hzd : zs.getD j 0 = zs[j] := by simp [List.getD, hjz]
      have hw := hwz zs[j] (List.getElem_mem _)
      rw [List.getElem?_eq_getElem hjz] at hj
      simp only [Option.map_some, Option.some.injEq] at hj
      subst hj
      obtain ⟨b, o, sp⟩ := x
      have hsp : sp = none := by
        have hc0 := hcell 0 (by omega)
        have : (⟨b, o, sp⟩ : Addr).add 0 = ⟨b, o, sp⟩ := rfl
        rw [this] at hc0
        cases sp with
        | none => rfl
        | some q => simp [World.cell?] at hc0; split at hc0 <;> simp at hc0
      subst hsp
      refine ⟨b, o, rfl, ?_⟩
      rw [← Addr.add_mid, hc, hzd]
      have hb : 0 ≤ zs[j] ∧ zs[j] ≤ 255 := by simpa [Lit.wf, IntKind.min, IntKind.max, IntKind.signed, IntKind.bits] using hw
      have : ((UInt8.ofNat zs[j].toNat).toNat : Int) = zs[j] := by simp; omega
      rw [this]
    · cases hj
end Go.Proofs.YtjlennpoaefllaaGreatDoor

/- Numbers that came in. -/
namespace Go.Proofs.YtjlennpoaefllaaGreatDoor
open Go.ChangeShapes Go.WideShapes Go.ChangeAt Go.RowKit

end Go.Proofs.YtjlennpoaefllaaGreatDoor
