/- Texts put together: PBase, PArgs, NArgs. -/
import Derived.Test.YtplppnngmlljnaaRows
import Derived.Test.YtplppnngmlljnaaQ03
import Derived.ProofKit
import Derived.LaidMore
import Derived.OpenShut
import Derived.Stop.Joined
import Derived.SizedLaws
import Derived.Test.YtplppnngmlljnaaQ06
import Derived.Lib.SmallJoins
import Derived.Deep.Grids
import Derived.Test.YtplppnngmlljnaaQ09
/- What every row's frame asks: numbers, floats and bytes that came in. -/
namespace Go.Proofs.Ytplppnngmlljnaa
open Go.ChangeShapes Go.WideShapes Go.ChangeAt Go.RowKit

set_option maxRecDepth 100000 in
theorem own : ownKnob Try.prog.godebug = none := by kernel_rfl
set_option maxRecDepth 100000 in
theorem laidOut : laidOutB Try.prog = true := by kernel_rfl
set_option maxRecDepth 100000 in
theorem c5 : Try.prog.cellsOf 5 = 1 := by kernel_rfl

set_option maxRecDepth 100000 in
/-- Bytes that came in: where they lie. -/
theorem bytes_at {H : Type} {enc : TypeId × Value → H} {W : World} {a : Option Addr} {len cap : Nat} {d : DataW H} {p : List MemPlace} (h1 : DataW.Trod enc Try.prog W 0 (fun _ => true) true 30 (.slice a len cap) d p) :
    ∃ bs : List UInt8, len = bs.length ∧ At W a bs ∧ (a = none → cap = 0) ∧ len ≤ cap ∧ cap ≤ maxLen := by
  obtain ⟨fuel, hf⟩ := h1
  rcases open_ints Try.underlying30 Try.underlying5 c5 hf with ⟨hcs, _⟩ | ⟨x, l, c, zs, hcs, _, hl, hm, hz, _, hcell, hwz⟩
  · simp [Value.cells] at hcs
    obtain ⟨rfl, rfl, rfl⟩ := hcs
    exact ⟨[], rfl, At.nil _ _, fun _ => rfl, Nat.le_refl _, Nat.zero_le _⟩
  · simp [Value.cells] at hcs
    obtain ⟨rfl, rfl, rfl⟩ := hcs
    have hz' : zs.length = cap := by simpa using hz
    refine ⟨(zs.take len).map (fun z => UInt8.ofNat z.toNat), by simp; omega, ?_, (fun e => by cases e), hl, hm⟩
    intro j c hj
    rw [List.getElem?_map, List.getElem?_take] at hj
    split at hj
    · rename_i hjl
      have hjz : j < zs.length := by omega
      have hc := hcell j hjz
      have hzd : zs.getD j 0 = zs[j] := by simp [List.getD, hjz]
      have hw := hwz zs[j] (List.getElem_mem _)
      rw [List.getElem?_eq_getElem hjz] at hj
      simp only [Option.map_some, Option.some.injEq] at hj
      subst hj
      obtain ⟨b, o, sp⟩ := x
      have hsp : sp = none := by
        have hc0 := hcell 0 (by omega)
        have : (⟨b, o, sp⟩ : Addr).add 0 = ⟨b, o, sp⟩ := rfl
        rw [this] at hc0
        cases sp with
        | none => rfl
        | some q => simp [World.cell?] at hc0; split at hc0 <;> simp at hc0
      subst hsp
      refine ⟨b, o, rfl, ?_⟩
      rw [← Addr.add_mid, hc, hzd]
      have hb : 0 ≤ zs[j] ∧ zs[j] ≤ 255 := by simpa [Lit.wf, IntKind.min, IntKind.max, IntKind.signed, IntKind.bits] using hw
      have : ((UInt8.ofNat zs[j].toNat).toNat : Int) = zs[j] := by simp; omega
      rw [this]
    · cases hj
end Go.Proofs.Ytplppnngmlljnaa

/- Lists of slices of bytes that came in. -/
namespace Go.Proofs.Ytplppnngmlljnaa
open Go.ChangeShapes Go.WideShapes Go.ChangeAt Go.RowKit

end Go.Proofs.Ytplppnngmlljnaa

/- A node that came in. -/
namespace Go.Proofs.Ytplppnngmlljnaa
open Go.ChangeShapes Go.WideShapes Go.ChangeAt Go.RowKit

end Go.Proofs.Ytplppnngmlljnaa
