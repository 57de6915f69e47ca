/- The reference's Uint. -/
import Derived.Test.YtlgbgedkedddaaaDoorUint
namespace Go.Proofs.YtlgbgedkedddaaaDoor
open Go.RowKit

theorem add_wrap {k m x m' u : Nat} (h1 : k ≤ 9) (h2 : m < 2 ^ (7 * k)) (h3 : x < 256) (h4 : k = 9 → x ≤ 1) (hu : u = 2 ^ (7 * k)) (hm : m' = m + x % 128 * 2 ^ (7 * k)) : IntKind.u64.wrap ((m : Int) + IntKind.u64.wrap ((x : Int) % 128 * (u : Int))) = (m' : Int) := by
  have hlt : m' < 18446744073709551616 := by
    rw [hm]
    by_cases h9 : k = 9
    · subst h9
      have := h4 rfl
      have : x % 128 ≤ 1 := by omega
      have := Nat.mul_le_mul_right (2 ^ 63) this
      omega
    · have hp : (2 : Nat) ^ (7 * (k + 1)) ≤ 2 ^ 63 := Nat.pow_le_pow_right (by decide) (by omega)
      have := grow_lt (x := x) h2
      omega
  have e : ((x : Int) % 128 * (u : Int)) = ((x % 128 * 2 ^ (7 * k) : Nat) : Int) := by rw [hu]; simp
  rw [e, IntKind.wrap_u64, IntKind.wrap_u64]
  omega
theorem mul_wrap {k u : Nat} (h1 : k < 9) (hu : u = 2 ^ (7 * k)) : IntKind.u64.wrap ((u : Int) * 128) = ((2 ^ (7 * (k + 1)) : Nat) : Int) := by
  have hp : (2 : Nat) ^ (7 * (k + 1)) ≤ 2 ^ 63 := Nat.pow_le_pow_right (by decide) (by omega)
  have e : (u : Int) * 128 = ((2 ^ (7 * (k + 1)) : Nat) : Int) := by
    rw [hu, show 7 * (k + 1) = 7 * k + 7 by omega, Nat.pow_add]; simp
  rw [e, IntKind.wrap_u64]
  omega

end Go.Proofs.YtlgbgedkedddaaaDoor
