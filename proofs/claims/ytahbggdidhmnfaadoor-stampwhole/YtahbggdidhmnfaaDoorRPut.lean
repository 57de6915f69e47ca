/- The reference's Uint, Int, Text, Fixed and Float. -/
import Derived.Test.YtahbggdidhmnfaaDoorKeep
namespace Go.Proofs.YtahbggdidhmnfaaDoor
open Go.RowKit

theorem own_adds {w w' : World} {b : Nat} {v : Value} {n : Nat} {xs : List Value} (h : w.ownsRow b 5 1 v n xs) (hA : Adds w w') : w'.ownsRow b 5 1 v n xs := by
  obtain ⟨q1, q2⟩ := h
  refine ⟨q1, ?_⟩
  rcases q2 with q2 | ⟨g, cap, cur, q2, q3, q4, q5⟩
  · exact .inl q2
  · exact .inr ⟨g, cap, cur, q2, q3, by rw [hA.block g (lt_of_heap q4) id]; exact q4, q5⟩
theorem own_lit (w : World) (c : UInt8) : (w.alloc (.cells #[.int .u8 (c.toNat : Int)] 5)).ownsRow w.heap.size 5 1 (.slice (some ⟨w.heap.size, 0, none⟩) 1 1) 1 (S [c]) :=
  World.ownsRow_lit (base := w.heap.size) (e := 5) (size := 1) w #[.int .u8 (c.toNat : Int)] 1 (Nat.le_refl _) (by decide) rfl

set_option maxRecDepth 100000 in
set_option maxHeartbeats 1000000 in
theorem rfixedp_hi (n : Nat) (hn : n < 18446744073709551616) (z : Int) (hz : 8 < z) (w : World) : Calls Tryd.prog 22 #[.int .u64 (n : Int), .int .i64 z] w (POwn w (M.fix n 8)) := by
  go_enter Tryd.func22, Tryd.ntmps22
  go_wp2
  go_loopw [0, 5, 6] (fun x v i wz => ∃ k : Nat, k ≤ 8 ∧ x = .int .u64 ((n / 256 ^ k : Nat) : Int) ∧ i = .int .i64 (k : Int) ∧ Hid (wz.ownsRow w.heap.size 5 1 v (M.fix n k).length (S (M.fix n k)) ∧ Adds w wz)) (fun _ _ i _ => 8 - (intOf i).toNat)
  case atStart => exact ⟨0, by omega, by simp, rfl, World.ownsRow_nil _ _ _ _, Touch.refl _ _⟩
  case round =>
    obtain ⟨k, hk, rfl, rfl, HI⟩ := hrel
    by_cases hlt : k < 8
    · obtain ⟨c, hc⟩ : ∃ c : UInt8, c = UInt8.ofNat (n / 256 ^ k % 256) := ⟨_, rfl⟩
      have HE := hid (show M.fix n (k + 1) = [c] ++ M.fix n k by rw [M.fix_head, ← hc]; rfl)
      have HD := hid (show n / 256 ^ (k + 1) = n / 256 ^ k / 256 by rw [Nat.div_div_eq_div_mul, Nat.pow_succ])
      have hcv : ((n / 256 ^ k : Nat) : Int) % 256 = (c.toNat : Int) := by rw [hc, M.ofNat_toNat _ (by omega)]; omega
      obtain ⟨a1, cap1, rfl, hL⟩ := Own.lies HI.out.1
      have HL := hid (hL.adds ((Touch.refl _ wr).alloc (.cells #[.int .u8 (c.toNat : Int)] 5)))
      have hkl := M.len_fix k n
      have hmlt : n / 256 ^ k < 18446744073709551616 := Nat.lt_of_le_of_lt (Nat.div_le_self _ _) hn
      clear hc hL
      generalize n / 256 ^ k = m at *
      go_wp2_with (first
        | (at_builtin; refine append_bytes rfl _ _ rfl w.heap.size (.slice (some ⟨wr.heap.size, 0, none⟩) 1 1) 1 (S [c]) rfl (own_base (own_lit wr c) HI.out.2.size) a1 (M.fix n k) cap1 (by rw [hkl]; rfl) HL.out.non HL.out.at_ (by omega) (by have := HI.out.2.size; simp; omega) ?_; intro v2 w2 hown1 hgrow1 hne1; have Q2 := hid (And.intro hown1 (show Adds w w2 from Touch.grown (HI.out.2.alloc _) hgrow1 (fun j hj hlt => by simp [Value.ownBlock] at hj; have := HI.out.2.size; omega))); clear hown1 hgrow1 hne1))
      go_roundw
      case rel =>
        refine ⟨k + 1, by omega, by rw [HD.out]; first | rfl | simp, by go_num, ?_, Q2.out.2⟩
        rw [HE.out, List.length_append, S, List.map_append]
        exact Q2.out.1
      case measure => simp [intOf]; omega
    · obtain rfl : k = 8 := by omega
      go_wp2
      go_ret
      exact ⟨_, rfl, HI.out.1, HI.out.2⟩
set_option maxRecDepth 100000 in
set_option maxHeartbeats 1000000 in
theorem rfixedp_mid (n q : Nat) (hn : n < 18446744073709551616) (hq : q ≤ 8) (w : World) : Calls Tryd.prog 22 #[.int .u64 (n : Int), .int .i64 (q : Int)] w (POwn w (M.fix n q)) := by
  go_enter Tryd.func22, Tryd.ntmps22
  go_wp2
  go_loopw [0, 5, 6] (fun x v i wz => ∃ k : Nat, k ≤ q ∧ x = .int .u64 ((n / 256 ^ k : Nat) : Int) ∧ i = .int .i64 (k : Int) ∧ Hid (wz.ownsRow w.heap.size 5 1 v (M.fix n k).length (S (M.fix n k)) ∧ Adds w wz)) (fun _ _ i _ => q - (intOf i).toNat)
  case atStart => exact ⟨0, by omega, by simp, rfl, World.ownsRow_nil _ _ _ _, Touch.refl _ _⟩
  case round =>
    obtain ⟨k, hk, rfl, rfl, HI⟩ := hrel
    by_cases hlt : k < q
    · obtain ⟨c, hc⟩ : ∃ c : UInt8, c = UInt8.ofNat (n / 256 ^ k % 256) := ⟨_, rfl⟩
      have HE := hid (show M.fix n (k + 1) = [c] ++ M.fix n k by rw [M.fix_head, ← hc]; rfl)
      have HD := hid (show n / 256 ^ (k + 1) = n / 256 ^ k / 256 by rw [Nat.div_div_eq_div_mul, Nat.pow_succ])
      have hcv : ((n / 256 ^ k : Nat) : Int) % 256 = (c.toNat : Int) := by rw [hc, M.ofNat_toNat _ (by omega)]; omega
      obtain ⟨a1, cap1, rfl, hL⟩ := Own.lies HI.out.1
      have HL := hid (hL.adds ((Touch.refl _ wr).alloc (.cells #[.int .u8 (c.toNat : Int)] 5)))
      have hkl := M.len_fix k n
      have hmlt : n / 256 ^ k < 18446744073709551616 := Nat.lt_of_le_of_lt (Nat.div_le_self _ _) hn
      clear hc hL
      generalize n / 256 ^ k = m at *
      go_wp2_with (first
        | (at_builtin; refine append_bytes rfl _ _ rfl w.heap.size (.slice (some ⟨wr.heap.size, 0, none⟩) 1 1) 1 (S [c]) rfl (own_base (own_lit wr c) HI.out.2.size) a1 (M.fix n k) cap1 (by rw [hkl]; rfl) HL.out.non HL.out.at_ (by omega) (by have := HI.out.2.size; simp; omega) ?_; intro v2 w2 hown1 hgrow1 hne1; have Q2 := hid (And.intro hown1 (show Adds w w2 from Touch.grown (HI.out.2.alloc _) hgrow1 (fun j hj hlt => by simp [Value.ownBlock] at hj; have := HI.out.2.size; omega))); clear hown1 hgrow1 hne1))
      go_roundw
      case rel =>
        refine ⟨k + 1, by omega, by rw [HD.out]; first | rfl | simp, by go_num, ?_, Q2.out.2⟩
        rw [HE.out, List.length_append, S, List.map_append]
        exact Q2.out.1
      case measure => simp [intOf]; omega
    · obtain rfl : k = q := by omega
      go_wp2
      go_ret
      exact ⟨_, rfl, HI.out.1, HI.out.2⟩
set_option maxRecDepth 100000 in
set_option maxHeartbeats 1000000 in
theorem rfixedp_lo (n : Nat) (z : Int) (hz : z < 0) (w : World) : Calls Tryd.prog 22 #[.int .u64 (n : Int), .int .i64 z] w (POwn w (M.fix n 0)) := by
  go_enter Tryd.func22, Tryd.ntmps22
  go_wp2
  go_loopw [5, 6] (fun v i wz => v = .slice none 0 0 ∧ i = .int .i64 0 ∧ wz = w) (fun _ _ _ => 0)
  case atStart => exact ⟨rfl, rfl, rfl⟩
  case round =>
    obtain ⟨rfl, rfl, rfl⟩ := hrel
    go_wp2
    go_ret
    exact ⟨_, rfl, World.ownsRow_nil _ _ _ _, Touch.refl _ _⟩
theorem rfixedp_any (n : Nat) (hn : n < 18446744073709551616) (z : Int) (w : World) : Calls Tryd.prog 22 #[.int .u64 (n : Int), .int .i64 z] w (POwn w (M.fix n (M.clamp z))) := by
  by_cases h0 : z < 0
  · rw [M.clamp, if_pos h0]; exact rfixedp_lo n z h0 w
  · by_cases h8 : 8 < z
    · rw [M.clamp, if_neg h0, if_pos h8]; exact rfixedp_hi n hn z h8 w
    · rw [M.clamp, if_neg h0, if_neg h8]
      have h := rfixedp_mid n z.toNat hn (by omega) w
      rw [Int.toNat_of_nonneg (by omega)] at h
      exact h
end Go.Proofs.YtahbggdidhmnfaaDoor
