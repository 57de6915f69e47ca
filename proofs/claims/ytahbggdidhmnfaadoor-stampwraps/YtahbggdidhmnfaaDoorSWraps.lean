/- The walk of StampWraps. -/
import Derived.Test.YtahbggdidhmnfaaDoorWorks
import Derived.Test.YtahbggdidhmnfaaDoorRWrap
namespace Go.Proofs.YtahbggdidhmnfaaDoor
open Go.RowKit

/-- What is wrapped; nothing where there is an error. -/
def M.wrapped (n : Nat) (k : UInt8) (b : List UInt8) : List UInt8 := if M.wErr n k b = 0 then M.sector n k b else []
/-- Bytes and an error. -/
def PW (w : World) (cs : List UInt8) (z : Nat) (e : Ending) (w' : World) : Prop := ∃ a c, e = .returned (.tuple #[.slice a cs.length c, .int .i64 (z : Int)]) ∧ Hid (At w' a cs) ∧ Adds w w'
theorem M.wErr_cases (n : Nat) (k : UInt8) (b : List UInt8) : (M.wErr n k b = 2 ∧ M.wrapped n k b = [] ∧ (n = 0 ∨ k = 0)) ∨ (M.wErr n k b = 3 ∧ M.wrapped n k b = [] ∧ n ≠ 0 ∧ k ≠ 0 ∧ 233 < b.length) ∨ (M.wErr n k b = 0 ∧ M.wrapped n k b = M.sector n k b ∧ n ≠ 0 ∧ k ≠ 0 ∧ b.length ≤ 233) := by
  unfold M.wrapped M.wErr
  by_cases h : n = 0 ∨ k = 0
  · exact .inl ⟨by rw [if_pos h], by rw [if_pos h]; rfl, h⟩
  · by_cases h2 : 233 < b.length
    · exact .inr (.inl ⟨by rw [if_neg h, if_pos h2], by rw [if_neg h, if_pos h2]; rfl, fun c => h (.inl c), fun c => h (.inr c), h2⟩)
    · exact .inr (.inr ⟨by rw [if_neg h, if_neg h2], by rw [if_neg h, if_neg h2]; rfl, fun c => h (.inl c), fun c => h (.inr c), by omega⟩)
theorem swrap_any (n : Nat) (k : UInt8) (a : Option Addr) (b : List UInt8) (cap : Nat) (w : World) (X : List UInt8) (z : Nat) (hX : M.wrapped n k b = X) (hz : M.wErr n k b = z) (hc : a = none → cap = 0) (hA : At w a b) (hT : Tab w) :
    Calls Tryd.prog 8 #[.int .u64 (n : Int), .int .u8 (k.toNat : Int), .slice a b.length cap] w (PW w X z) := by
  subst hX hz
  rcases M.wErr_cases n k b with ⟨e1, e2, h⟩ | ⟨e1, e2, h0, h1, h2⟩ | ⟨e1, e2, h0, h1, h2⟩
  · rw [e1, e2]
    refine (swrap_inv n k a b.length cap w h).mono ?_
    rintro e w' ⟨rfl, rfl⟩
    exact ⟨none, 0, rfl, At.nil _ _, Touch.refl _ _⟩
  · rw [e1, e2]
    refine (swrap_big n k a b.length cap w h0 h1 h2).mono ?_
    rintro e w' ⟨rfl, rfl⟩
    exact ⟨none, 0, rfl, At.nil _ _, Touch.refl _ _⟩
  · rw [e1, e2]
    refine (swrap_ok n k a b cap w h0 h1 h2 hc hA hT).mono ?_
    rintro e w' ⟨g, rfl, _, hS, hA'⟩
    exact ⟨some ⟨g, 0, none⟩, 256, by rw [M.len_sector n k b h2]; rfl, hS.at, hA'⟩
theorem rswrap_any (n : Nat) (hn2 : n < 18446744073709551616) (k : UInt8) (a : Option Addr) (b : List UInt8) (cap : Nat) (w : World) (X : List UInt8) (z : Nat) (hX : M.wrapped n k b = X) (hz : M.wErr n k b = z) (hc : a = none → cap = 0) (hA : At w a b) :
    Calls Tryd.prog 9 #[.int .u64 (n : Int), .int .u8 (k.toNat : Int), .slice a b.length cap] w (PW w X z) := by
  subst hX hz
  rcases M.wErr_cases n k b with ⟨e1, e2, h⟩ | ⟨e1, e2, h0, h1, h2⟩ | ⟨e1, e2, h0, h1, h2⟩
  · rw [e1, e2]
    refine (rswrap_inv n k a b.length cap w h).mono ?_
    rintro e w' ⟨rfl, rfl⟩
    exact ⟨none, 0, rfl, At.nil _ _, Touch.refl _ _⟩
  · rw [e1, e2]
    refine (rswrap_big n k a b.length cap w h0 h1 h2).mono ?_
    rintro e w' ⟨rfl, rfl⟩
    exact ⟨none, 0, rfl, At.nil _ _, Touch.refl _ _⟩
  · rw [e1, e2]
    refine (rswrap_ok n hn2 k a b cap w h0 h1 h2 hc hA).mono ?_
    rintro e w' ⟨ay, cy, rfl, hS, hA'⟩
    exact ⟨ay, cy, by rw [M.len_sector n k b h2]; rfl, hS, hA'⟩

namespace SWr
set_option maxRecDepth 100000 in
set_option maxHeartbeats 2000000 in
theorem walk (n : Nat) (hn2 : n < 18446744073709551616) (k : UInt8) (a : Option Addr) (b : List UInt8) (cap : Nat) (w : World) (hc : a = none → cap = 0) (hT : Tab w) (hA : At w a b) : Calls Tryd.prog 3 #[.int .u64 (n : Int), .int .u8 (k.toNat : Int), .slice a b.length cap] w (Adding (.bool true) w) := by
  by_cases hl : 1000 < b.length
  · have hd : (1000 : Int) < (b.length : Int) := by omega
    go_enter Tryd.func3, Tryd.ntmps3
    go_wp2
    go_ret
    exact ⟨rfl, Touch.refl _ _⟩
  · have hd : ¬ (1000 : Int) < (b.length : Int) := by omega
    obtain ⟨X, hX⟩ : ∃ X, M.wrapped n k b = X := ⟨_, rfl⟩
    obtain ⟨z, hz⟩ : ∃ z, M.wErr n k b = z := ⟨_, rfl⟩
    have H1 := hid (fun a' c' w' (hw : Adds w w') (h0 : a' = none → c' = 0) (h1 : At w' a' b) => swrap_any n k a' b c' w' X z hX hz h0 h1 (hT.adds hw))
    have H2 := hid (fun w' (hw : Adds w w') => rswrap_any n hn2 k a b cap w' X z hX hz hc (hA.adds hw))
    have HW := hid (fun w' (hw : Adds w w') => works_any w' (hT.adds hw))
    have HA := hid (And.intro (show b.length ≤ 1000 by omega) (And.intro hc hA))
    have HO := hid (World.ownsRow_lit (base := w.heap.size) (e := 5) (size := 1) w #[] 0 (Nat.le_refl _) (by decide) rfl)
    have HA1 := hid (hA.adds ((Touch.refl _ w).alloc (.cells #[] 5)))
    clear hX hz hc hA hT hl hn2
    go_enter Tryd.func3, Tryd.ntmps3
    go_wp2_with (first
      | (at_builtin; refine append_bytes rfl _ _ rfl w.heap.size (.slice (some ⟨w.heap.size, 0, none⟩) 0 0) 0 [] rfl HO.out a b cap rfl HA.out.2.1 HA1.out (by have := HA.out.1; omega) (by simp) ?_; intro v1 w1 hown1 hgrow1 hne1; rw [Nat.zero_add, List.nil_append] at hown1; have A1 := hid (show Adds w w1 from Touch.grown ((Touch.refl _ w).alloc _) hgrow1 (fun k hk hlt => by simp [Value.ownBlock] at hk; omega)); obtain ⟨a1, c1, rfl, hL1⟩ := Own.lies hown1; have L1 := hid hL1; clear hown1 hgrow1 hne1 hL1)
      | (go_at_call 8; refine (H1.out a1 c1 w1 A1.out L1.out.non L1.out.at_).mono ?_; rintro e w2 ⟨ax, cx, rfl, X2, hA⟩; have A2 := hid (A1.out.trans hA); have L2 := hid (L1.out.at_.adds hA); clear hA)
      | (go_at_call 9; refine (H2.out w2 A2.out).mono ?_; rintro e w3 ⟨ay, cy, rfl, Y3, hA⟩; have A3 := hid (A2.out.trans hA); have f1 := conv_at w3 ax X cx (X2.out.adds hA); have f2 := conv_at w3 ay X cy Y3.out; have f3 := conv_at w3 a1 b c1 (L2.out.adds hA); have f4 := conv_at w3 a b cap (HA.out.2.2.adds (A2.out.trans hA)); generalize (⟨X.toArray⟩ : ByteArray) = BX at f1 f2; generalize (⟨b.toArray⟩ : ByteArray) = BB at f3 f4; clear hA)
      | (go_at_call 10; refine (HW.out w3 A3.out).mono ?_; rintro e w4 ⟨rfl, hA⟩; have A4 := hid (A3.out.trans hA); clear hA))
    go_ret
    exact ⟨rfl, A4.out⟩
end SWr
end Go.Proofs.YtahbggdidhmnfaaDoor
