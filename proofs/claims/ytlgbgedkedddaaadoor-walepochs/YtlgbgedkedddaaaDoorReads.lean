/- Int, Text and Float, of a reader and of the reference's. -/
import Derived.Test.YtlgbgedkedddaaaDoorFixed
namespace Go.Proofs.YtlgbgedkedddaaaDoor
open Go.RowKit

theorem xor_nought (x : Int) : bits .xor .i64 x 0 = IntKind.i64.wrap x := by
  show IntKind.i64.wrap ((BitVec.ofInt 64 x ^^^ BitVec.ofInt 64 0).toNat : Int) = _
  rw [show BitVec.ofInt 64 0 = 0#64 from rfl, BitVec.xor_zero, BitVec.toNat_ofInt, IntKind.wrap_i64, IntKind.wrap_i64]
  omega
theorem xor_ones (x : Int) : bits .xor .i64 x (-1) = IntKind.i64.wrap (-x - 1) := by
  show IntKind.i64.wrap ((BitVec.ofInt 64 x ^^^ BitVec.ofInt 64 (-1)).toNat : Int) = _
  rw [show BitVec.ofInt 64 (-1) = BitVec.allOnes 64 from rfl, BitVec.xor_allOnes, BitVec.toNat_not, BitVec.toNat_ofInt, IntKind.wrap_i64, IntKind.wrap_i64]
  omega
theorem and_one (n : Nat) (h : n < 18446744073709551616) : bits .and .u64 (n : Int) 1 = ((n % 2 : Nat) : Int) := by
  rw [show (1 : Int) = ((1 : Nat) : Int) from rfl, bits_and_u64_nat _ _ h (by omega), show (1 : Nat) = 2 ^ 1 - 1 from rfl, Nat.and_two_pow_sub_one_eq_mod]
theorem unzig_bits (n : Nat) (h : n < 18446744073709551616) : bits .xor .i64 ((n : Int) / 2) (wrap64 (-wrap64 (bits .and .u64 (n : Int) 1))) = M.unzig n := by
  rw [and_one n h]
  by_cases h2 : n % 2 = 1
  · rw [M.unzig, if_pos h2, h2, show wrap64 (-wrap64 ((1 : Nat) : Int)) = -1 by simp [wrap64], xor_ones, IntKind.wrap_i64]
    omega
  · rw [M.unzig, if_neg h2, show n % 2 = 0 by omega, show wrap64 (-wrap64 ((0 : Nat) : Int)) = 0 by simp [wrap64], xor_nought, IntKind.wrap_i64]
    omega

set_option maxHeartbeats 400000 in
theorem text_any {v : Value} {s : M.St} {w : World} (z : Int) (hz : -9223372036854775808 ≤ z ∧ z ≤ 9223372036854775807) (h : RD w v s) : Calls Tryd.prog 55 #[v, .int .i64 z] w (PR w v (Str (M.textR z s).1) (M.textR z s).2) := by
  have H := hid (uint_any (M.atLeast0 z) h)
  obtain ⟨u, hu⟩ : ∃ u, M.uintR (M.atLeast0 z) s = u := ⟨_, rfl⟩
  have hle : u.1 ≤ M.atLeast0 z := by rw [← hu]; exact (M.uintR_lt _ s).2
  have HX := hid (show M.textR z s = M.takeR u.1 u.2 by rw [← hu]; rfl)
  rw [hu] at H
  clear h hu
  obtain ⟨n, s'⟩ := u
  have H2 := hid (fun w' (h : RD w' v s') => take_any n h)
  rw [HX.out]
  by_cases hz0 : z < 0
  · have hat : (M.atLeast0 z : Int) = 0 := by rw [M.atLeast0, if_pos hz0]; rfl
    have hn : (n : Int) ≤ 9223372036854775807 := by simp only at hle; omega
    rw [hat] at H
    clear hle hat HX
    go_enter Tryd.func55, Tryd.ntmps55
    go_wp2_with (first
      | (go_at_call 54; refine H.out.mono ?_; rintro e w1 ⟨rfl, h1, h2⟩; have HR := hid h1; have HT := hid h2; clear h1 h2)
      | (go_at_call 79; refine (H2.out _ HR.out).mono ?_; rintro e w2 ⟨a, cap, rfl, hAt, hRD, hT⟩; have hcv := conv_at w2 a _ cap hAt; have HQ := hid (And.intro hRD hT); clear hAt hRD hT))
    all_goals first | omega | (go_ret; exact ⟨rfl, HQ.out.1, HT.out.trans HQ.out.2⟩)
  · have hat : (M.atLeast0 z : Int) = z := by rw [M.atLeast0, if_neg hz0]; omega
    have hn : (n : Int) ≤ 9223372036854775807 := by simp only at hle; omega
    rw [hat] at H
    clear hle hat HX
    go_enter Tryd.func55, Tryd.ntmps55
    go_wp2_with (first
      | (go_at_call 54; refine H.out.mono ?_; rintro e w1 ⟨rfl, h1, h2⟩; have HR := hid h1; have HT := hid h2; clear h1 h2)
      | (go_at_call 79; refine (H2.out _ HR.out).mono ?_; rintro e w2 ⟨a, cap, rfl, hAt, hRD, hT⟩; have hcv := conv_at w2 a _ cap hAt; have HQ := hid (And.intro hRD hT); clear hAt hRD hT))
    all_goals first | omega | (go_ret; exact ⟨rfl, HQ.out.1, HT.out.trans HQ.out.2⟩)

theorem refuse_any {v : Value} {s : M.St} {w : World} (e : Nat) (h : RD w v s) (h0 : s.e = 0) (he2 : e ≤ 100) : Calls Tryd.prog 78 #[v, .int .i64 (e : Int)] w (PR w v (.tuple #[]) ⟨e, []⟩) := by
  obtain ⟨p, rfl, hR⟩ := h.made h0
  obtain ⟨a, cap, hb, hL⟩ := hR.box
  refine (refuse_box p _ _ _ (e : Int) w hb).mono ?_
  rintro x w' ⟨rfl, hw⟩
  obtain ⟨h3, h4⟩ := hR.set (e := e) (l := []) hw (Lies.nil w p) (fun _ => rfl) (by simp) he2
  exact ⟨rfl, .inr (.inr ⟨p, rfl, h3⟩), h4⟩
theorem fixedR_bad {z : Int} {s : M.St} (h : M.canon (M.fixedR z s).1 ≠ (M.fixedR z s).1) : (M.fixedR z s).2.e = 0 := by
  unfold M.fixedR at h ⊢
  unfold M.takeR at h ⊢
  by_cases h1 : s.e ≠ 0
  · rw [if_pos h1] at h; exact absurd M.canon_zero h
  · rw [if_neg h1] at h ⊢
    by_cases h2 : s.l.length < M.clamp z
    · rw [if_pos h2] at h; exact absurd M.canon_zero h
    · rw [if_neg h2]
end Go.Proofs.YtlgbgedkedddaaaDoor
