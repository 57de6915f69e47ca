/- Noughts, Join, and the reference's. -/
import Derived.Test.YtikeplkbiajcgaaDoorPower
namespace Go.Proofs.YtikeplkbiajcgaaDoor
open Go.RowKit

theorem N_not' (x : M.V) : bits .xor .u32 IntKind.u32.max (N x) = N (~~~ x) := N_not x
/-- What a call tells that takes new memory alone. -/
def Adding (v : Value) (w : World) (e : Ending) (w' : World) : Prop := e = .returned v ∧ Adds w w'

set_option maxHeartbeats 1000000 in
theorem noughts_any (a : M.V) (n : Int) (hn : n ≤ 9223372036854775807) (w : World) : Calls Tryd.prog 12 #[.int .u32 (N a), .int .i64 n] w (Adding (.int .u32 (N (M.noughts a n.toNat))) w) := by
  have HN := hid hn
  clear hn
  have hnot := N_not' a
  have hsg : IntKind.u32.signed = false := rfl
  go_enter Tryd.func12, Tryd.ntmps12
  go_wp2_with (first
    | (go_at_call 23; refine (power_any n HN.out _).mono ?_; rintro e w1 ⟨rfl, hA⟩)
    | (go_at_call 22; refine (times_any _ _ _).mono ?_; rintro e _ ⟨rfl, hw⟩; rw [hw]; clear hw))
  go_ret
  refine ⟨?_, hA⟩
  show Ending.returned (.int .u32 (bits .xor .u32 IntKind.u32.max (N (M.mul (~~~ a) (M.Dn (8 * n.toNat) M.one))))) = _
  rw [N_not', M.mul_Dn_right, M.noughts]

set_option maxHeartbeats 1000000 in
theorem join_any (a b : M.V) (n : Int) (hn : n ≤ 9223372036854775807) (w : World) : Calls Tryd.prog 14 #[.int .u32 (N a), .int .u32 (N b), .int .i64 n] w (Adding (.int .u32 (N (M.join a b n.toNat))) w) := by
  have HN := hid hn
  clear hn
  go_enter Tryd.func14, Tryd.ntmps14
  go_wp2_with (first
    | (go_at_call 23; refine (power_any n HN.out _).mono ?_; rintro e w1 ⟨rfl, hA⟩)
    | (go_at_call 22; refine (times_any _ _ _).mono ?_; rintro e _ ⟨rfl, hw⟩; rw [hw]; clear hw))
  go_ret
  refine ⟨?_, hA⟩
  show Ending.returned (.int .u32 (bits .xor .u32 (N (M.mul a (M.Dn (8 * n.toNat) M.one))) (N b))) = _
  rw [bits_xor, M.mul_Dn_right, M.join]

set_option maxRecDepth 100000 in
set_option maxHeartbeats 1000000 in
theorem rnoughts_any (a : M.V) (n : Int) (hn : n ≤ 3000) (w : World) : Calls Tryd.prog 13 #[.int .u32 (N a), .int .i64 n] w (Adding (.int .u32 (N (M.noughts a n.toNat))) w) := by
  have hnot := N_not' a
  have hsg : IntKind.u32.signed = false := rfl
  go_enter Tryd.func13, Tryd.ntmps13
  go_wp2
  go_loopw [5, 6] (fun x i wr => ∃ k : Nat, k ≤ n.toNat ∧ x = .int .u32 (N (M.Dn (8 * k) (~~~ a))) ∧ i = .int .i64 (k : Int) ∧ Hid (Adds w wr)) (fun _ i _ => n.toNat - (intOf i).toNat)
  case atStart => exact ⟨0, by omega, rfl, rfl, Touch.refl _ w⟩
  case round =>
    obtain ⟨k, hk, rfl, rfl, HA⟩ := hrel
    by_cases hlt : (k : Int) < n
    · have hA1 : At (wr.alloc (.cells #[.int .u8 0] 5)) (some ⟨wr.heap.size, 0, none⟩) [0] := by
        intro j c hj
        cases j with
        | zero =>
          obtain rfl : (0 : UInt8) = c := by simpa using hj
          exact ⟨_, _, rfl, cell_of_row _ _ 0 _ _ _ (heap_alloc_new wr _)⟩
        | succ j => simp at hj
      have HR := hid (fun h : M.V => raw_any h (some ⟨wr.heap.size, 0, none⟩) [0] 1 (wr.alloc (.cells #[.int .u8 0] 5)) (by decide) hA1)
      have HK := hid (show M.raw (M.Dn (8 * k) (~~~ a)) [0] = M.Dn (8 * (k + 1)) (~~~ a) by rw [M.raw_one_zero, M.Dn_add]; congr 1)
      clear hA1 hnot
      go_wp2_with (go_at_call 21; refine (HR.out _).mono ?_; rintro e _ ⟨rfl, hw⟩; rw [hw]; clear hw)
      go_roundw
      case rel => exact ⟨k + 1, by omega, by rw [← HK.out], by go_num, HA.out.alloc _⟩
      case measure => simp [intOf]; omega
    · obtain hkn : k = n.toNat := by omega
      have HKN := hid hkn
      clear hkn
      go_wp2
      go_ret
      refine ⟨?_, HA.out⟩
      show Ending.returned (.int .u32 (bits .xor .u32 IntKind.u32.max (N (M.Dn (8 * k) (~~~ a))))) = _
      rw [N_not', HKN.out, M.noughts]

set_option maxHeartbeats 1000000 in
theorem rjoin_any (a b : M.V) (n : Int) (hn : n ≤ 3000) (w : World) : Calls Tryd.prog 15 #[.int .u32 (N a), .int .u32 (N b), .int .i64 n] w (Adding (.int .u32 (N (M.join a b n.toNat))) w) := by
  have HN := hid hn
  have R0 := hid (fun w : World => (show Calls Tryd.prog 13 #[.int .u32 0, .int .i64 n] w (Adding (.int .u32 (N (M.noughts 0#32 n.toNat))) w) from rnoughts_any 0#32 n hn w))
  have R1 := hid (fun w : World => rnoughts_any a n hn w)
  clear hn
  go_enter Tryd.func15, Tryd.ntmps15
  go_wp2_with fail
  go_at_call 13
  refine (R1.out _).mono ?_
  rintro e w1 ⟨rfl, hA1⟩
  go_wp2_with fail
  go_at_call 13
  refine (R0.out _).mono ?_
  rintro e w2 ⟨rfl, hA2⟩
  go_wp2
  go_ret
  refine ⟨?_, hA1.trans hA2⟩
  show Ending.returned (.int .u32 (bits .xor .u32 (bits .xor .u32 (N (M.noughts a n.toNat)) (N b)) (N (M.noughts 0#32 n.toNat)))) = _
  rw [bits_xor, bits_xor, M.join_noughts]
end Go.Proofs.YtikeplkbiajcgaaDoor
