/- Int, Text and Float, of a reader and of the reference's. -/
import Derived.Test.YtahbggdidhmnfaaDoorFixed
namespace Go.Proofs.YtahbggdidhmnfaaDoor
open Go.RowKit

theorem xor_nought (x : Int) : bits .xor .i64 x 0 = IntKind.i64.wrap x := by
  show IntKind.i64.wrap ((BitVec.ofInt 64 x ^^^ BitVec.ofInt 64 0).toNat : Int) = _
  rw [show BitVec.ofInt 64 0 = 0#64 from rfl, BitVec.xor_zero, BitVec.toNat_ofInt, IntKind.wrap_i64, IntKind.wrap_i64]
  omega
theorem xor_ones (x : Int) : bits .xor .i64 x (-1) = IntKind.i64.wrap (-x - 1) := by
  show IntKind.i64.wrap ((BitVec.ofInt 64 x ^^^ BitVec.ofInt 64 (-1)).toNat : Int) = _
  rw [show BitVec.ofInt 64 (-1) = BitVec.allOnes 64 from rfl, BitVec.xor_allOnes, BitVec.toNat_not, BitVec.toNat_ofInt, IntKind.wrap_i64, IntKind.wrap_i64]
  omega
theorem and_one (n : Nat) (h : n < 18446744073709551616) : bits .and .u64 (n : Int) 1 = ((n % 2 : Nat) : Int) := by
  rw [show (1 : Int) = ((1 : Nat) : Int) from rfl, bits_and_u64_nat _ _ h (by omega), show (1 : Nat) = 2 ^ 1 - 1 from rfl, Nat.and_two_pow_sub_one_eq_mod]
theorem unzig_bits (n : Nat) (h : n < 18446744073709551616) : bits .xor .i64 ((n : Int) / 2) (wrap64 (-wrap64 (bits .and .u64 (n : Int) 1))) = M.unzig n := by
  rw [and_one n h]
  by_cases h2 : n % 2 = 1
  · rw [M.unzig, if_pos h2, h2, show wrap64 (-wrap64 ((1 : Nat) : Int)) = -1 by simp [wrap64], xor_ones, IntKind.wrap_i64]
    omega
  · rw [M.unzig, if_neg h2, show n % 2 = 0 by omega, show wrap64 (-wrap64 ((0 : Nat) : Int)) = 0 by simp [wrap64], xor_nought, IntKind.wrap_i64]
    omega

theorem refuse_any {v : Value} {s : M.St} {w : World} (e : Nat) (h : RD w v s) (h0 : s.e = 0) (he2 : e ≤ 100) : Calls Tryd.prog 52 #[v, .int .i64 (e : Int)] w (PR w v (.tuple #[]) ⟨e, []⟩) := by
  obtain ⟨p, rfl, hR⟩ := h.made h0
  obtain ⟨a, cap, hb, hL⟩ := hR.box
  refine (refuse_box p _ _ _ (e : Int) w hb).mono ?_
  rintro x w' ⟨rfl, hw⟩
  obtain ⟨h3, h4⟩ := hR.set (e := e) (l := []) hw (Lies.nil w p) (fun _ => rfl) (by simp) he2
  exact ⟨rfl, .inr (.inr ⟨p, rfl, h3⟩), h4⟩
theorem rbad_any {p : Nat} {s : M.St} {w : World} (e : Nat) (hR : IsS w p s) (he2 : e ≤ 100) : Calls Tryd.prog 49 #[.pointer (some ⟨p, 0, none⟩), .int .i64 (e : Int)] w (PS w p (.tuple #[]) ⟨e, []⟩) := by
  obtain ⟨a, cap, hb, hL⟩ := hR.box
  refine (bad_box p _ _ (e : Int) w hb).mono ?_
  rintro x w' ⟨rfl, hw⟩
  obtain ⟨h3, h4⟩ := hR.set (e := e) (l := []) hw (Lies.nil w p) (fun _ => rfl) (by simp) he2
  exact ⟨rfl, h3, h4⟩
theorem fixedR_bad {z : Int} {s : M.St} (h : M.canon (M.fixedR z s).1 ≠ (M.fixedR z s).1) : (M.fixedR z s).2.e = 0 := by
  unfold M.fixedR at h ⊢
  unfold M.takeR at h ⊢
  by_cases h1 : s.e ≠ 0
  · rw [if_pos h1] at h; exact absurd M.canon_zero h
  · rw [if_neg h1] at h ⊢
    by_cases h2 : s.l.length < M.clamp z
    · rw [if_pos h2] at h; exact absurd M.canon_zero h
    · rw [if_neg h2]
end Go.Proofs.YtahbggdidhmnfaaDoor
