/- The reference's Uint. -/
import Derived.Test.YtahbggdidhmnfaaDoorUint
namespace Go.Proofs.YtahbggdidhmnfaaDoor
open Go.RowKit

/-- What a call of the reference's reader tells, and what it turns. -/
def PS (w : World) (p : Nat) (x : Value) (s : M.St) (e : Ending) (w' : World) : Prop := e = .returned x ∧ IsS w' p s ∧ Touch (Own1 (.pointer (some ⟨p, 0, none⟩))) w w'

/-- A byte is read. -/
theorem IsS.next {w : World} {p : Nat} {c : UInt8} {r : List UInt8} (h : IsS w p ⟨0, c :: r⟩) :
    ∃ b o cap, w.cell? ⟨p, 0, none⟩ = some (.slice (some ⟨b, o, none⟩) (r.length + 1) cap) ∧ w.cell? ⟨p, 1, none⟩ = some (.int .i64 0) ∧ w.frozen? ⟨p, 0, none⟩ = false ∧ w.cell? ⟨b, o, none⟩ = some (.int .u8 (c.toNat : Int)) ∧ r.length + 1 ≤ cap ∧
      (∀ u e, Calls Tryd.prog 49 #[.pointer (some ⟨p, 0, none⟩), .int .i64 e] (w.setCell ⟨p, 0, none⟩ u) fun x w' => x = .returned (.tuple #[]) ∧ w' = w.setRow p #[.slice none 0 0, .int .i64 e]) ∧
      IsS (w.setCell ⟨p, 0, none⟩ (.slice (if cap = 1 then some ⟨b, o, none⟩ else some ⟨b, o + 1, none⟩) r.length (cap - 1))) p ⟨0, r⟩ ∧ Touch (Own1 (.pointer (some ⟨p, 0, none⟩))) w (w.setCell ⟨p, 0, none⟩ (.slice (if cap = 1 then some ⟨b, o, none⟩ else some ⟨b, o + 1, none⟩) r.length (cap - 1))) := by
  obtain ⟨a, cap, hb, hL⟩ := h.box
  obtain ⟨b, o, rfl, hc⟩ := hL.at_ 0 c rfl
  have E := fun u => show w.setCell ⟨p, 0, none⟩ u = w.setRow p #[u, .int .i64 0] from setCell_eq_setRow w p 0 _ 53 _ _ hb
  have hD := hL.drop 1 (by simp)
  have hl := h.len
  simp only [List.length_cons] at hl
  refine ⟨b, o, cap, cellOf hb 0, cellOf hb 1, frozen_of_row w p 0 _ 53 hb, hc, hL.room, fun u e => ?_, ?_⟩
  · refine (bad_box p u (.int .i64 0) e _ (by rw [E]; exact setRow_heap w p _ _ 53 _ hb)).mono ?_
    rintro x w' ⟨rfl, rfl⟩
    exact ⟨rfl, by rw [E, setRow_setRow]⟩
  · rw [Option.map_some, Addr.add_mid] at hD
    refine h.set (e := 0) (l := r) ?_ hD (fun h => absurd rfl h) (by omega) (by omega)
    rw [E]; rfl

theorem add_wrap {k m x m' u : Nat} (h1 : k ≤ 9) (h2 : m < 2 ^ (7 * k)) (h3 : x < 256) (h4 : k = 9 → x ≤ 1) (hu : u = 2 ^ (7 * k)) (hm : m' = m + x % 128 * 2 ^ (7 * k)) : IntKind.u64.wrap ((m : Int) + IntKind.u64.wrap ((x : Int) % 128 * (u : Int))) = (m' : Int) := by
  have hlt : m' < 18446744073709551616 := by
    rw [hm]
    by_cases h9 : k = 9
    · subst h9
      have := h4 rfl
      have : x % 128 ≤ 1 := by omega
      have := Nat.mul_le_mul_right (2 ^ 63) this
      omega
    · have hp : (2 : Nat) ^ (7 * (k + 1)) ≤ 2 ^ 63 := Nat.pow_le_pow_right (by decide) (by omega)
      have := grow_lt (x := x) h2
      omega
  have e : ((x : Int) % 128 * (u : Int)) = ((x % 128 * 2 ^ (7 * k) : Nat) : Int) := by rw [hu]; simp
  rw [e, IntKind.wrap_u64, IntKind.wrap_u64]
  omega
theorem mul_wrap {k u : Nat} (h1 : k < 9) (hu : u = 2 ^ (7 * k)) : IntKind.u64.wrap ((u : Int) * 128) = ((2 ^ (7 * (k + 1)) : Nat) : Int) := by
  have hp : (2 : Nat) ^ (7 * (k + 1)) ≤ 2 ^ 63 := Nat.pow_le_pow_right (by decide) (by omega)
  have e : (u : Int) * 128 = ((2 ^ (7 * (k + 1)) : Nat) : Int) := by
    rw [hu, show 7 * (k + 1) = 7 * k + 7 by omega, Nat.pow_add]; simp
  rw [e, IntKind.wrap_u64]
  omega

end Go.Proofs.YtahbggdidhmnfaaDoor
