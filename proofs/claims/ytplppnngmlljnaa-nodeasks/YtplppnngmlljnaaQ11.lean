/- Texts put together: NVl, NConS, NConB, NConI. -/
import Derived.Test.YtplppnngmlljnaaQ09
import Derived.Deep.RegionWith
/- Lists of cells that lie in a row. -/
namespace Go.Proofs.Ytplppnngmlljnaa
open Go.RowKit

/-- A list of cells. -/
structure Vl where
  a : Option Addr
  cap : Nat
  l : List Value
/-- A new list of cells. -/
def POwnV (el : TypeId) (w : World) (xs : List Value) (e : Ending) (w' : World) : Prop := ∃ v, e = .returned v ∧ Hid (w'.ownsRow w.heap.size el 1 v xs.length xs ∧ Adds w w')
def VParts (w : World) (g : Nat) (L : List Vl) : Prop := ∀ j x, L[j]? = some x → w.cell? ⟨g, j, none⟩ = some (.slice x.a x.l.length x.cap) ∧ CQ w (fun _ => True) x.a x.l ∧ (x.a = none → x.cap = 0) ∧ ∀ u ∈ x.l, u.oneCell' = true
theorem VParts.adds {w w' : World} {g : Nat} {L : List Vl} (h : VParts w g L) (hA : Adds w w') : VParts w' g L := by
  intro j x hj
  obtain ⟨h1, h2, h3⟩ := h j x hj
  exact ⟨below_adds hA h1, h2.adds hA, h3⟩
end Go.Proofs.Ytplppnngmlljnaa

/- Lists of texts, one behind the other: Grow, Concat, splice. -/
namespace Go.Proofs.Ytplppnngmlljnaa
open Go.RowKit

theorem infoES : ∃ i, Try.prog.info? 9 = some i ∧ i.zero = some (.string ⟨#[]⟩) ∧ i.size = 1 ∧ i.bytes = 16 := by
  have h : (Try.prog.info? 9).map (fun i => (i.zero, i.size, i.bytes)) = some (some (.string ⟨#[]⟩), 1, 16) := by kernel_rfl
  cases hq : Try.prog.info? 9 with
  | none => rw [hq] at h; cases h
  | some i =>
    rw [hq] at h
    simp only [Option.map_some, Option.some.injEq, Prod.mk.injEq] at h
    exact ⟨i, rfl, h.1, h.2.1, h.2.2⟩
end Go.Proofs.Ytplppnngmlljnaa

/- Lists of slices of bytes, one behind the other: Grow, Concat, splice. -/
namespace Go.Proofs.Ytplppnngmlljnaa
open Go.RowKit

theorem infoEB : ∃ i, Try.prog.info? 30 = some i ∧ i.zero = some (.slice none 0 0) ∧ i.size = 1 ∧ i.bytes = 24 := by
  have h : (Try.prog.info? 30).map (fun i => (i.zero, i.size, i.bytes)) = some (some (.slice none 0 0), 1, 24) := by kernel_rfl
  cases hq : Try.prog.info? 30 with
  | none => rw [hq] at h; cases h
  | some i =>
    rw [hq] at h
    simp only [Option.map_some, Option.some.injEq, Prod.mk.injEq] at h
    exact ⟨i, rfl, h.1, h.2.1, h.2.2⟩
end Go.Proofs.Ytplppnngmlljnaa

/- Lists of numbers, one behind the other: Grow, Concat, splice. -/
namespace Go.Proofs.Ytplppnngmlljnaa
open Go.RowKit

theorem infoEI : ∃ i, Try.prog.info? 3 = some i ∧ i.zero = some (.int .i64 0) ∧ i.size = 1 ∧ i.bytes = 8 := by
  have h : (Try.prog.info? 3).map (fun i => (i.zero, i.size, i.bytes)) = some (some (.int .i64 0), 1, 8) := by kernel_rfl
  cases hq : Try.prog.info? 3 with
  | none => rw [hq] at h; cases h
  | some i =>
    rw [hq] at h
    simp only [Option.map_some, Option.some.injEq, Prod.mk.injEq] at h
    exact ⟨i, rfl, h.1, h.2.1, h.2.2⟩
end Go.Proofs.Ytplppnngmlljnaa
