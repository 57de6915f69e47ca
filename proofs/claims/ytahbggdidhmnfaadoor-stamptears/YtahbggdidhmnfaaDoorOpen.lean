/- Clone, Open, and the reference's Open. -/
import Derived.Test.YtahbggdidhmnfaaDoorParts
import Derived.Lib.SliceRun
namespace Go.Proofs.YtahbggdidhmnfaaDoor
open Go.RowKit

/-- Bytes, of four behind others. -/
def tail4 (s : C.V) (c0 c1 c2 c3 : UInt8) : Prop := le s = [c0, c1, c2, c3]
def unle (c0 c1 c2 c3 : UInt8) : C.V := ((C.z8 c0 ||| C.z8 c1 <<< 8) ||| C.z8 c2 <<< 16) ||| C.z8 c3 <<< 24
theorem unle_le (s : C.V) : unle (UInt8.ofNat s.toNat) (UInt8.ofNat (s >>> 8).toNat) (UInt8.ofNat (s >>> 16).toNat) (UInt8.ofNat (s >>> 24).toNat) = s := by
  have hz : ∀ x : C.V, C.z8 (UInt8.ofNat x.toNat) = x &&& 255#32 := by
    intro x
    apply BitVec.eq_of_toNat_eq
    rw [BitVec.toNat_and]
    simp only [C.z8, BitVec.toNat_ofNat]
    rw [show 255 % 2 ^ 32 = 2 ^ 8 - 1 from rfl, Nat.and_two_pow_sub_one_eq_mod]
    simp
    omega
  unfold unle
  rw [hz, hz, hz, hz]
  apply BitVec.eq_of_getLsbD_eq
  intro i hi
  have h255 : ∀ j, (255#32).getLsbD j = decide (j < 8) := by
    intro j
    by_cases hj : j < 32
    · have : ∀ j : Fin 32, (255#32).getLsbD j.val = decide (j.val < 8) := by decide
      exact this ⟨j, hj⟩
    · rw [BitVec.getLsbD_of_ge _ _ (by omega), decide_eq_false (by omega)]
  simp only [BitVec.getLsbD_or, BitVec.getLsbD_and, BitVec.getLsbD_shiftLeft, BitVec.getLsbD_ushiftRight, h255]
  rw [decide_eq_true hi]
  by_cases h8 : i < 8
  · rw [decide_eq_true h8, decide_eq_true (show i < 16 by omega), decide_eq_true (show i < 24 by omega)]; simp
  · by_cases h16 : i < 16
    · rw [decide_eq_false h8, decide_eq_true h16, decide_eq_true (show i < 24 by omega), decide_eq_true (show i - 8 < 8 by omega), show 8 + (i - 8) = i by omega]; simp
    · by_cases h24 : i < 24
      · rw [decide_eq_false h8, decide_eq_false h16, decide_eq_true h24, decide_eq_false (show ¬ i - 8 < 8 by omega), decide_eq_true (show i - 16 < 8 by omega), show 16 + (i - 16) = i by omega]; simp
      · rw [decide_eq_false h8, decide_eq_false h16, decide_eq_false h24, decide_eq_false (show ¬ i - 8 < 8 by omega), decide_eq_false (show ¬ i - 16 < 8 by omega), decide_eq_true (show i - 24 < 8 by omega), show 24 + (i - 24) = i by omega]; simp
theorem le_unle (c0 c1 c2 c3 : UInt8) : le (unle c0 c1 c2 c3) = [c0, c1, c2, c3] := by
  have hb : ∀ (c : UInt8) (j : Nat), 8 ≤ j → (C.z8 c).getLsbD j = false := by
    intro c j hj
    unfold C.z8
    rw [BitVec.getLsbD_ofNat, Nat.testBit_lt_two_pow (Nat.lt_of_lt_of_le c.toNat_lt (Nat.pow_le_pow_right (by decide) hj))]
    simp
  have key : ∀ (x : C.V) (c : UInt8), (∀ j, j < 8 → x.getLsbD j = (C.z8 c).getLsbD j) → UInt8.ofNat x.toNat = c := by
    intro x c h
    apply UInt8.toNat_inj.1
    apply Nat.eq_of_testBit_eq
    intro j
    have e : (UInt8.ofNat x.toNat).toNat = x.toNat % 2 ^ 8 := by simp
    rw [e, Nat.testBit_mod_two_pow]
    by_cases hj : j < 8
    · rw [decide_eq_true hj, Bool.true_and]
      have := h j hj
      unfold C.z8 at this
      rw [BitVec.getLsbD_ofNat, decide_eq_true (show j < 32 by omega), Bool.true_and] at this
      exact this
    · rw [decide_eq_false hj, Nat.testBit_lt_two_pow (Nat.lt_of_lt_of_le c.toNat_lt (Nat.pow_le_pow_right (by decide) (by omega)))]
      simp
  unfold le
  congr 1
  · apply key
    intro j hj
    unfold unle
    simp only [BitVec.getLsbD_or, BitVec.getLsbD_shiftLeft]
    rw [decide_eq_true (show j < 8 from hj), decide_eq_true (show j < 16 by omega), decide_eq_true (show j < 24 by omega)]; simp
  congr 1
  · apply key
    intro j hj
    unfold unle
    simp only [BitVec.getLsbD_ushiftRight, BitVec.getLsbD_or, BitVec.getLsbD_shiftLeft]
    rw [decide_eq_false (show ¬ 8 + j < 8 by omega), decide_eq_true (show 8 + j < 16 by omega), decide_eq_true (show 8 + j < 24 by omega), decide_eq_true (show 8 + j < 32 by omega), hb c0 _ (by omega), show 8 + j - 8 = j by omega]; simp
  congr 1
  · apply key
    intro j hj
    unfold unle
    simp only [BitVec.getLsbD_ushiftRight, BitVec.getLsbD_or, BitVec.getLsbD_shiftLeft]
    rw [decide_eq_false (show ¬ 16 + j < 8 by omega), decide_eq_false (show ¬ 16 + j < 16 by omega), decide_eq_true (show 16 + j < 24 by omega), decide_eq_true (show 16 + j < 32 by omega), hb c0 _ (by omega), hb c1 _ (by omega), show 16 + j - 16 = j by omega]; simp
  congr 1
  · apply key
    intro j hj
    unfold unle
    simp only [BitVec.getLsbD_ushiftRight, BitVec.getLsbD_or, BitVec.getLsbD_shiftLeft]
    rw [decide_eq_false (show ¬ 24 + j < 8 by omega), decide_eq_false (show ¬ 24 + j < 16 by omega), decide_eq_false (show ¬ 24 + j < 24 by omega), decide_eq_true (show 24 + j < 32 by omega), hb c0 _ (by omega), hb c1 _ (by omega), hb c2 _ (by omega), show 24 + j - 24 = j by omega]; simp
/-- The four bytes are a sum's just if they make it. -/
theorem le_iff (s : C.V) (c0 c1 c2 c3 : UInt8) : le s = [c0, c1, c2, c3] ↔ s = unle c0 c1 c2 c3 := by
  constructor
  · intro h
    have := unle_le s
    unfold le at h
    simp only [List.cons.injEq, and_true] at h
    obtain ⟨h0, h1, h2, h3⟩ := h
    rw [h0, h1, h2, h3] at this
    exact this.symm
  · intro h; rw [h]; exact le_unle c0 c1 c2 c3
end Go.Proofs.YtahbggdidhmnfaaDoor
