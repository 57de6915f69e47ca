/- Numbers that came in. -/
import Derived.Test.YtjlennpoaefllaaGreatDoorQ41
import Derived.Test.YtjlennpoaefllaaGreatDoorQ22
namespace Go.Proofs.YtjlennpoaefllaaGreatDoor
open Go.ChangeShapes Go.WideShapes Go.ChangeAt Go.RowKit
/-- Numbers that lie somewhere. -/
def NumsAt (w : World) (a : Option Addr) (n : Nat) : Prop := ∀ j, j < n → ∃ b o z, a = some ⟨b, o, none⟩ ∧ w.cell? ⟨b, o + j, none⟩ = some (.int .i64 z)
set_option maxRecDepth 100000 in
theorem c3 : Tryz.prog.cellsOf 3 = 1 := by kernel_rfl
set_option maxRecDepth 100000 in
/-- Out of the reading: where a slice's numbers lie. -/
theorem nums_at {H : Type} {enc : TypeId × Value → H} {W : World} {a1 : Option Addr} {len1 cap1 : Nat} {d1 : DataW H} {p1 : List MemPlace} (h1 : DataW.Trod enc Tryz.prog W 0 (fun _ => true) true 64 (.slice a1 len1 cap1) d1 p1) : NumsAt W a1 len1 := by
  obtain ⟨fuel, hf⟩ := h1
  rcases open_ints Tryz.underlying64 Tryz.underlying3 c3 hf with ⟨hcs, _⟩ | ⟨x, l, c, zs, hcs, _, hl, hm, hz, _, hcell, hwz⟩
  · simp [Value.cells] at hcs
    obtain ⟨rfl, rfl, rfl⟩ := hcs
    exact fun j hj => absurd hj (by omega)
  · simp [Value.cells] at hcs
    obtain ⟨rfl, rfl, rfl⟩ := hcs
    have hz' : zs.length = cap1 := by simpa using hz
    intro j hj
    obtain ⟨b, o, sp⟩ := x
    have hc := hcell j (by omega)
    have hsp : sp = none := by
      have hc0 := hcell 0 (by omega)
      have : (⟨b, o, sp⟩ : Addr).add 0 = ⟨b, o, sp⟩ := rfl
      rw [this] at hc0
      cases sp with
      | none => rfl
      | some q => simp [World.cell?] at hc0; split at hc0 <;> simp at hc0
    subst hsp
    exact ⟨b, o, zs.getD j 0, rfl, by rw [← Addr.add_mid]; exact hc⟩
end Go.Proofs.YtjlennpoaefllaaGreatDoor
