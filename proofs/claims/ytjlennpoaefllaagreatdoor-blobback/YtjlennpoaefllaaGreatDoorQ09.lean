/- uint32's own operations as 32 bits; worlds that only take new memory; bytes in memory. -/
import Derived.Test.YtjlennpoaefllaaGreatDoorQ03
import Derived.Test.YtjlennpoaefllaaGreatDoorQ08
import Derived.WalkKit
import Derived.WalkSpells
import Derived.WalkLawsBesides
import Derived.Below
import Derived.Deep.MidRow
import Derived.Laws.CopyOwn
namespace Go.Proofs.YtjlennpoaefllaaGreatDoor
open Go.RowKit

/-- 32 bits as a number. -/
abbrev N (x : C.V) : Int := (x.toNat : Int)

theorem wrap32 (n : Nat) (h : n < 4294967296) : IntKind.u32.wrap (n : Int) = (n : Int) := by
  simp only [IntKind.wrap, IntKind.bits, IntKind.signed]
  simp
  omega
theorem ofInt_N (x : C.V) : BitVec.ofInt 32 (N x) = x := by simp [N]
theorem bits_xor (x y : C.V) : bits .xor .u32 (N x) (N y) = N (x ^^^ y) := by
  show IntKind.u32.wrap ((BitVec.ofInt 32 (N x) ^^^ BitVec.ofInt 32 (N y)).toNat : Int) = _
  rw [ofInt_N, ofInt_N, wrap32 _ (BitVec.isLt _)]
theorem bits_and (x y : C.V) : bits .and .u32 (N x) (N y) = N (x &&& y) := by
  show IntKind.u32.wrap ((BitVec.ofInt 32 (N x) &&& BitVec.ofInt 32 (N y)).toNat : Int) = _
  rw [ofInt_N, ofInt_N, wrap32 _ (BitVec.isLt _)]
theorem bits_or (x y : C.V) : bits .or .u32 (N x) (N y) = N (x ||| y) := by
  show IntKind.u32.wrap ((BitVec.ofInt 32 (N x) ||| BitVec.ofInt 32 (N y)).toNat : Int) = _
  rw [ofInt_N, ofInt_N, wrap32 _ (BitVec.isLt _)]
theorem N_shr (x : C.V) (k : Nat) : N x / 2 ^ k = N (x >>> k) := by
  simp only [N]
  rw [BitVec.toNat_ushiftRight, Nat.shiftRight_eq_div_pow]
  simp
theorem N_shr4 (x : C.V) : N x / (16 : Int) = N (x >>> 4) := by have := N_shr x 4; rw [← this]; rfl
theorem N_shr8 (x : C.V) : N x / (256 : Int) = N (x >>> 8) := by have := N_shr x 8; rw [← this]; rfl
theorem N_shr16 (x : C.V) : N x / (65536 : Int) = N (x >>> 16) := by have := N_shr x 16; rw [← this]; rfl
theorem N_shr24 (x : C.V) : N x / (16777216 : Int) = N (x >>> 24) := by have := N_shr x 24; rw [← this]; rfl
theorem N_shl (x : C.V) (k : Nat) : (N x * 2 ^ k) % (4294967296 : Int) = N (x <<< k) := by
  simp only [N]
  rw [BitVec.toNat_shiftLeft, Nat.shiftLeft_eq]
  simp
theorem N_not (x : C.V) : bits .xor .u32 4294967295 (N x) = N (~~~ x) := by
  have := bits_xor (~~~ 0#32) x
  rw [show N (~~~ 0#32) = 4294967295 by decide] at this
  rw [this, BitVec.xor_comm, ← C.not_xor]
theorem N_inj {x y : C.V} (h : N x = N y) : x = y := BitVec.eq_of_toNat_eq (by simp only [N] at h; omega)
theorem N_ofNat (n : Nat) (h : n < 4294967296) : N (BitVec.ofNat 32 n) = (n : Int) := by simp [N]; omega
/-! ### Worlds that turn in some blocks alone -/
/-- The table of halves stands where the program laid it. -/
def Tab (w : World) : Prop := ∀ j, j < 16 → w.cell? ⟨0, j, none⟩ = some (.int .u32 ((C.tab.getD j 0 : Nat) : Int))
theorem Tab.adds {w w' : World} (h : Tab w) (hA : Adds w w') : Tab w' := by
  intro j hj
  rw [World.cell?_of_block (w := w) (hA.block 0 (World.block_lt_of_cell? w _ (h j hj)) id)]
  exact h j hj
theorem Tab.drew {w : World} (h : Tab w) : Tab w.drew := h
end Go.Proofs.YtjlennpoaefllaaGreatDoor
