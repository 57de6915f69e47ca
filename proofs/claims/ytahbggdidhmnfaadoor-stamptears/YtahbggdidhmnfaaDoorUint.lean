/- A reader's Uint. -/
import Derived.Test.YtahbggdidhmnfaaDoorTake
namespace Go.Proofs.YtahbggdidhmnfaaDoor
open Go.RowKit

/-- What Uint does to a reader that has not refused. -/
def PU (p : Nat) (a : Option Addr) (l : List UInt8) (cap most : Nat) (w : World) (r : Ending) (w' : World) : Prop :=
  r = .returned (.int .u64 ((M.uintR most ⟨0, l⟩).1 : Int)) ∧
  ((∃ e : Nat, e ≠ 0 ∧ e ≤ 100 ∧ (M.uintR most ⟨0, l⟩).2 = ⟨e, []⟩ ∧ w' = w.setRow p #[.bool true, .int .i64 (e : Int), .slice none 0 0]) ∨
   ∃ k, k ≤ l.length ∧ (M.uintR most ⟨0, l⟩).2 = ⟨0, l.drop k⟩ ∧ w' = w.setRow p #[.bool true, .int .i64 0, .slice (if cap = k then a else a.map (·.add k)) (l.length - k) (cap - k)])

/-- What holds at the jump. -/
def JU (p : Nat) (l : List UInt8) (most : Nat) (w : World) (a' : Act) (w' : World) : Prop :=
  ∃ e : Nat, (e ≠ 0 ∧ e ≤ 100 ∧ M.uintR most ⟨0, l⟩ = (0, ⟨e, []⟩)) ∧ w' = w ∧ ∃ (u1 u2 u3 u4 u5 u7 u8 u9 u10 u11 u12 u13 u14 u15 u16 u17 u18 u19 u20 u21 u22 u23 u24 u25 u26 u27 u28 u29 u30 u31 u32 u33 u34 u35 u36 u37 u38 u39 u40 u41 u42 u43 u44 u45 u46 u47 u48 u49 u50 u51 u52 u53 u54 u55 u56 u57 u58 u59 u60 u61 u62 u63 : Value), a' = { tmps := #[.pointer (some ⟨p, 0, none⟩), u1, u2, u3, u4, u5, .int .i64 (e : Int), u7, u8, u9, u10, u11, u12, u13, u14, u15, u16, u17, u18, u19, u20, u21, u22, u23, u24, u25, u26, u27, u28, u29, u30, u31, u32, u33, u34, u35, u36, u37, u38, u39, u40, u41, u42, u43, u44, u45, u46, u47, u48, u49, u50, u51, u52, u53, u54, u55, u56, u57, u58, u59, u60, u61, u62, u63], defers := [] }

set_option maxRecDepth 100000 in
theorem or_add (m x i : Nat) (h : m < 2 ^ i) : m ||| (x * 2 ^ i) = m + x * 2 ^ i := by
  rw [Nat.or_comm, Nat.mul_comm, Nat.add_comm, Nat.two_pow_add_eq_or_of_lt h]

set_option maxRecDepth 100000 in
theorem grow_lt {m x k : Nat} (h : m < 2 ^ (7 * k)) : m + x % 128 * 2 ^ (7 * k) < 2 ^ (7 * (k + 1)) := by
  rw [show 7 * (k + 1) = 7 * k + 7 by omega, Nat.pow_add]
  generalize 2 ^ (7 * k) = y at *
  have h1 : x % 128 < 128 := Nat.mod_lt _ (by decide)
  have h2 : (x % 128 + 1) * y ≤ 128 * y := Nat.mul_le_mul_right _ h1
  rw [Nat.add_mul] at h2
  rw [show (2 : Nat) ^ 7 = 128 from rfl, Nat.mul_comm y 128]
  omega
set_option maxRecDepth 100000 in
theorem or_wrap {k m x m' : Nat} (h1 : k ≤ 9) (h2 : m < 2 ^ (7 * k)) (h3 : x < 256) (h4 : k = 9 → x ≤ 1) (hm : m' = m + x % 128 * 2 ^ (7 * k)) : bits .or .u64 (m : Int) (IntKind.u64.wrap ((x : Int) % 128 * 2 ^ (7 * k))) = (m' : Int) := by
  have hp : (2 : Nat) ^ (7 * k) ≤ 2 ^ 63 := Nat.pow_le_pow_right (by decide) (by omega)
  have hlt : x % 128 * 2 ^ (7 * k) < 18446744073709551616 := by
    by_cases h9 : k = 9
    · subst h9
      have := h4 rfl
      have : x % 128 ≤ 1 := by omega
      have := Nat.mul_le_mul_right (2 ^ 63) this
      omega
    · have hp : (2 : Nat) ^ (7 * k) ≤ 2 ^ 56 := Nat.pow_le_pow_right (by decide) (by omega)
      have := Nat.mul_le_mul (show x % 128 ≤ 127 by omega) hp
      omega
  have e : ((x : Int) % 128 * 2 ^ (7 * k)) = ((x % 128 * 2 ^ (7 * k) : Nat) : Int) := by simp
  rw [e, IntKind.wrap_u64, show ((x % 128 * 2 ^ (7 * k) : Nat) : Int) % 18446744073709551616 = ((x % 128 * 2 ^ (7 * k) : Nat) : Int) by omega, bits_or_u64_nat _ _ (by omega) hlt, or_add _ _ _ h2, hm]

/-- What a reader's call tells, and what it turns. -/
def PR (w : World) (v x : Value) (s : M.St) (e : Ending) (w' : World) : Prop := e = .returned x ∧ RD w' v s ∧ Touch (Own1 v) w w'
end Go.Proofs.YtahbggdidhmnfaaDoor
