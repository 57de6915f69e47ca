/- Sum, the reference's Raw and Sum. -/
import Derived.Test.YtahbggdidhmnfaaDoorCLeaf
namespace Go.Proofs.YtahbggdidhmnfaaDoor
open Go.RowKit

theorem N_z8 (c : UInt8) : N (C.z8 c) = (c.toNat : Int) := by
  have := c.toNat_lt
  unfold C.z8
  rw [N_ofNat _ (by omega)]
theorem byte32 (c : UInt8) : IntKind.u32.wrap (c.toNat : Int) = (c.toNat : Int) := wrap32 _ (by have := c.toNat_lt; omega)
theorem xor8 (r : C.V) (c : UInt8) : bits .xor .u32 (N r) (c.toNat : Int) = N (r ^^^ C.z8 c) := by rw [← N_z8, bits_xor]
set_option maxRecDepth 100000 in
set_option maxHeartbeats 1000000 in
theorem sum_any (a : Option Addr) (bs : List UInt8) (cap : Nat) (w : World) (hlen : bs.length ≤ 9223372036854775807) (hT : Tab w) (hA : At w a bs) :
    Calls Tryd.prog 32 #[.slice a bs.length cap] w (Tells (.int .u32 (N (C.sum bs))) w) := by
  have HT := hid hT
  have HA := hid hA
  clear hT hA
  go_enter Tryd.func32, Tryd.ntmps32
  go_wp2
  go_loopw [3, 8] (fun x i wr => ∃ k : Nat, k ≤ bs.length ∧ x = .int .u32 (N (C.raw (~~~ 0#32) (bs.take k))) ∧ i = .int .i64 k ∧ wr = w) (fun _ i _ => bs.length - (intOf i).toNat)
  case atStart => exact ⟨0, by omega, by rw [List.take_zero, C.raw_nil]; rfl, rfl, rfl⟩
  case round =>
    obtain ⟨k, hk, rfl, rfl, rfl⟩ := hrel
    by_cases hlt : k < bs.length
    · obtain ⟨c, hc⟩ : ∃ c, bs[k]? = some c := ⟨bs[k], List.getElem?_eq_getElem hlt⟩
      obtain ⟨b, o, rfl, hcell⟩ := HA.out k c hc
      have h32 := byte32 c
      have hx := xor8 (C.raw (~~~ 0#32) (bs.take k)) c
      have HN := hid (show C.Dn 4 (C.Dn 4 (C.raw (~~~ 0#32) (bs.take k) ^^^ C.z8 c)) = C.raw (~~~ 0#32) (bs.take (k + 1)) by rw [take_next hc, C.raw_snoc, C.Dn_add])
      clear hc
      generalize C.raw (~~~ 0#32) (bs.take k) = r at hx HN
      generalize r ^^^ C.z8 c = s at hx HN
      go_wp2_with (go_at_call 44; refine (half_any _ _ HT.out).mono ?_; rintro e _ ⟨rfl, hw⟩; rw [hw]; clear hw)
      go_roundw
      case rel => exact ⟨k + 1, by omega, by rw [← HN.out], by go_num, by first | rfl | trivial⟩
      case measure => simp [intOf]; omega
    · obtain rfl : k = bs.length := by omega
      go_wp2
      go_ret
      refine ⟨?_, rfl⟩
      show Ending.returned (.int .u32 (bits .xor .u32 4294967295 (N (C.raw (4294967295#32) bs)))) = _
      rw [N_not]; rfl

set_option maxRecDepth 100000 in
set_option maxHeartbeats 1000000 in
theorem raw_any (h : C.V) (a : Option Addr) (bs : List UInt8) (cap : Nat) (w : World) (hlen : bs.length ≤ 9223372036854775807) (hA : At w a bs) :
    Calls Tryd.prog 45 #[.int .u32 (N h), .slice a bs.length cap] w (Tells (.int .u32 (N (C.raw h bs))) w) := by
  have HA := hid hA
  clear hA
  go_enter Tryd.func45, Tryd.ntmps45
  go_wp2
  go_loopw [0, 5] (fun x i wr => ∃ k : Nat, k ≤ bs.length ∧ x = .int .u32 (N (C.raw h (bs.take k))) ∧ i = .int .i64 k ∧ wr = w) (fun _ i _ => bs.length - (intOf i).toNat)
  case atStart => exact ⟨0, by omega, by rw [List.take_zero, C.raw_nil], rfl, rfl⟩
  case round =>
    obtain ⟨k, hk, rfl, rfl, rfl⟩ := hrel
    by_cases hlt : k < bs.length
    · obtain ⟨c, hc⟩ : ∃ c, bs[k]? = some c := ⟨bs[k], List.getElem?_eq_getElem hlt⟩
      obtain ⟨b, o, rfl, hcell⟩ := HA.out k c hc
      have h32 := byte32 c
      have hx := xor8 (C.raw h (bs.take k)) c
      have HN := hid (show C.Dn 8 (C.raw h (bs.take k) ^^^ C.z8 c) = C.raw h (bs.take (k + 1)) by rw [take_next hc, C.raw_snoc])
      clear hc
      generalize C.raw h (bs.take k) = r at hx HN
      generalize r ^^^ C.z8 c = s at hx HN
      go_wp2
      go_loopw [0, 6] (fun x i wr' => ∃ j : Nat, j ≤ 8 ∧ x = .int .u32 (N (C.Dn j s)) ∧ i = .int .i64 j ∧ wr' = wr) (fun _ i _ => 8 - (intOf i).toNat)
      case atStart => exact ⟨0, by omega, rfl, rfl, rfl⟩
      case round =>
        obtain ⟨j, hj, rfl, rfl, rfl⟩ := hrel
        by_cases hlt8 : j < 8
        · have HD := hid (show C.D (C.Dn j s) = C.Dn (j + 1) s by rw [C.Dn_D]; rfl)
          clear hx
          generalize C.Dn j s = u at HD
          go_wp2_with (go_at_call 50; refine (rdown_any _ _).mono ?_; rintro e _ ⟨rfl, hw⟩; rw [hw]; clear hw)
          go_roundw
          case rel => exact ⟨j + 1, by omega, by rw [← HD.out], by go_num, by first | rfl | trivial⟩
          case measure => simp [intOf]; omega
        · obtain rfl : j = 8 := by omega
          clear hx
          have h8 := HN.out
          generalize C.Dn 8 s = u at h8
          have H8 := hid h8
          clear h8 HN
          go_wp2
          go_roundw
          case rel => exact ⟨k + 1, by omega, by rw [← H8.out], by go_num, by first | rfl | trivial⟩
          case measure => simp [intOf]; omega
    · obtain rfl : k = bs.length := by omega
      go_wp2
      go_ret
      refine ⟨?_, rfl⟩
      show Ending.returned (.int .u32 (N (C.raw h (bs.take bs.length)))) = _
      rw [List.take_length]

set_option maxHeartbeats 400000 in
theorem rsum_any (a : Option Addr) (bs : List UInt8) (cap : Nat) (w : World) (hlen : bs.length ≤ 9223372036854775807) (hA : At w a bs) :
    Calls Tryd.prog 33 #[.slice a bs.length cap] w (Tells (.int .u32 (N (C.sum bs))) w) := by
  have HA := hid hA
  have HL := hid hlen
  clear hA hlen
  go_enter Tryd.func33, Tryd.ntmps33
  go_wp2_with (go_at_call 45; refine (raw_any (~~~ 0#32) _ _ _ _ HL.out HA.out).mono ?_; rintro e _ ⟨rfl, hw⟩; rw [hw]; clear hw)
  go_ret
  refine ⟨?_, rfl⟩
  show Ending.returned (.int .u32 (bits .xor .u32 4294967295 (N (C.raw (~~~ 0#32) bs)))) = _
  rw [N_not]; rfl
end Go.Proofs.YtahbggdidhmnfaaDoor
