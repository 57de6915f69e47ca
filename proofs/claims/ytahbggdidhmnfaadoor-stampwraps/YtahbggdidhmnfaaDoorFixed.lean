/- Fixed, Byte, Int, Text and Float, of a reader and of the reference's. -/
import Derived.Test.YtahbggdidhmnfaaDoorRUint
namespace Go.Proofs.YtahbggdidhmnfaaDoor
open Go.RowKit

theorem take_next {bs : List UInt8} {k : Nat} {c : UInt8} (h : bs[k]? = some c) : bs.take (k + 1) = bs.take k ++ [c] := by
  rw [List.take_add_one, h]; rfl
theorem unfix_step {t : List UInt8} {k : Nat} {c : UInt8} (h : t[k]? = some c) (h8 : t.length ≤ 8) :
    M.unfix (t.take (k + 1)) = M.unfix (t.take k) * 256 + c.toNat ∧ M.unfix (t.take k) * 256 < 18446744073709551616 ∧ M.unfix (t.take k) * 256 + c.toNat < 18446744073709551616 := by
  have hk : k < t.length := by
    rcases Nat.lt_or_ge k t.length with h1 | h1
    · exact h1
    · rw [List.getElem?_eq_none h1] at h; cases h
  have hc := c.toNat_lt
  have h1 := (M.fix_unfix k (t.take k) (by rw [List.length_take]; omega)).2
  have h2 : 256 ^ k ≤ 256 ^ 7 := Nat.pow_le_pow_right (by decide) (by omega)
  refine ⟨by rw [take_next h, M.unfix_snoc], ?_, ?_⟩ <;> omega
theorem or_byte (x : Nat) (c : UInt8) (h : x * 256 < 18446744073709551616) : bits .or .u64 ((x : Int) * 256) (c.toNat : Int) = ((x * 256 + c.toNat : Nat) : Int) := by
  have hc := c.toNat_lt
  rw [show (x : Int) * 256 = ((x * 256 : Nat) : Int) by omega, bits_or_u64_nat _ _ h (by omega), Nat.or_comm, show x * 256 = x * 2 ^ 8 from rfl, or_add _ _ 8 (by omega), Nat.add_comm]

set_option maxRecDepth 100000 in
set_option maxHeartbeats 1000000 in
theorem fixed_any {v : Value} {s : M.St} {w : World} (z : Int) (h : RD w v s) : Calls Tryd.prog 40 #[v, .int .i64 z] w (PR w v (.int .u64 ((M.fixedR z s).1 : Int)) (M.fixedR z s).2) := by
  have H1 := hid (within_any z w)
  have H2 := hid (take_any (M.clamp z) h)
  clear h
  go_enter Tryd.func40, Tryd.ntmps40
  go_wp2_with (first
    | (go_at_call 31; refine H1.out.mono ?_; rintro e w' ⟨rfl, rfl⟩)
    | (go_at_call 48; refine H2.out.mono ?_; rintro e w2 ⟨a, cap, rfl, hAt, hRD, hT⟩; have HA := hid hAt; have HR := hid (And.intro hRD hT); clear hAt hRD hT))
  obtain ⟨t, ht⟩ : ∃ t, (M.takeR (M.clamp z) s).1 = t := ⟨_, rfl⟩
  have HF := hid (show M.unfix t = (M.fixedR z s).1 by rw [← ht]; rfl)
  have h8 : t.length ≤ 8 := by rw [← ht]; exact Nat.le_trans (M.takeR_len _ _) (M.clamp_le z)
  rw [ht] at HA ⊢
  clear ht
  go_loopw [5, 13] (fun x i wr => ∃ k : Nat, k ≤ t.length ∧ x = .int .u64 (M.unfix (t.take k) : Int) ∧ i = .int .i64 (k : Int) ∧ wr = w2) (fun _ i _ => t.length - (intOf i).toNat)
  case atStart => exact ⟨0, by omega, rfl, rfl, rfl⟩
  case round =>
    obtain ⟨k, hk, rfl, rfl, rfl⟩ := hrel
    by_cases hlt : k < t.length
    · obtain ⟨c, hc⟩ : ∃ c, t[k]? = some c := ⟨t[k], List.getElem?_eq_getElem hlt⟩
      obtain ⟨b, o, rfl, hcell⟩ := HA.out k c hc
      obtain ⟨h1, h2, h3⟩ := unfix_step hc h8
      have HN := hid h1
      clear hc h1
      generalize M.unfix (t.take k) = x at *
      have hor := or_byte x c h2
      go_wp2
      go_roundw
      case rel => exact ⟨k + 1, by omega, by rw [HN.out]; simp, by go_num, by first | rfl | trivial⟩
      case measure => simp [intOf]; omega
    · obtain rfl : k = t.length := by omega
      go_wp2
      go_ret
      refine ⟨?_, HR.out.1, HR.out.2⟩
      show Ending.returned (.int .u64 ((M.unfix (t.take t.length) : Nat) : Int)) = _
      rw [List.take_length, HF.out]

set_option maxRecDepth 100000 in
set_option maxHeartbeats 1000000 in
theorem rfixed_at {p : Nat} {s : M.St} {w : World} (z z' : Int) (hz : (z < 0 ∧ z' = 0) ∨ (8 < z ∧ z' = 8) ∨ (0 ≤ z ∧ z ≤ 8 ∧ z' = z)) (hzc : z' = (M.clamp z : Int)) (h : IsS w p s) : Calls Tryd.prog 29 #[.pointer (some ⟨p, 0, none⟩), .int .i64 z] w (PS w p (.int .u64 ((M.fixedR z s).1 : Int)) (M.fixedR z s).2) := by
  have H2 := hid (rtake_any (M.clamp z) h)
  rw [← hzc] at H2
  obtain ⟨t, ht⟩ : ∃ t, (M.takeR (M.clamp z) s).1 = t := ⟨_, rfl⟩
  have HF := hid (show M.unfix t = (M.fixedR z s).1 by rw [← ht]; rfl)
  have h8 : t.length ≤ 8 := by rw [← ht]; exact Nat.le_trans (M.takeR_len _ _) (M.clamp_le z)
  have HT := hid ht
  clear h hzc ht
  rcases hz with ⟨hz, rfl⟩ | ⟨hz, rfl⟩ | ⟨hz, hz2, rfl⟩
  all_goals
    go_enter Tryd.func29, Tryd.ntmps29
    go_wp2_with (first
      | (go_at_call 42; refine H2.out.mono ?_; rintro e w2 ⟨a, cap, rfl, hAt, hRD, hT⟩; rw [HT.out] at hAt ⊢; have HA := hid hAt; have HR := hid (And.intro hRD hT); clear hAt hRD hT))
    go_loopw [6, 7] (fun x i wr => ∃ k : Nat, k ≤ t.length ∧ x = .int .u64 (M.unfix (t.take k) : Int) ∧ i = .int .i64 (k : Int) ∧ wr = w2) (fun _ i _ => t.length - (intOf i).toNat)
    case atStart => exact ⟨0, by omega, rfl, rfl, rfl⟩
    case round =>
      obtain ⟨k, hk, rfl, rfl, rfl⟩ := hrel
      by_cases hlt : k < t.length
      · obtain ⟨c, hc⟩ : ∃ c, t[k]? = some c := ⟨t[k], List.getElem?_eq_getElem hlt⟩
        obtain ⟨b, o, rfl, hcell⟩ := HA.out k c hc
        obtain ⟨h1, h2, h3⟩ := unfix_step hc h8
        have HN := hid h1
        clear hc h1
        generalize M.unfix (t.take k) = x at *
        go_wp2
        go_roundw
        case rel => exact ⟨k + 1, by omega, by rw [HN.out]; simp, by go_num, by first | rfl | trivial⟩
        case measure => simp [intOf]; omega
      · obtain rfl : k = t.length := by omega
        go_wp2
        go_ret
        refine ⟨?_, HR.out.1, HR.out.2⟩
        show Ending.returned (.int .u64 ((M.unfix (t.take t.length) : Nat) : Int)) = _
        rw [List.take_length, HF.out]
theorem rfixed_any {p : Nat} {s : M.St} {w : World} (z : Int) (h : IsS w p s) : Calls Tryd.prog 29 #[.pointer (some ⟨p, 0, none⟩), .int .i64 z] w (PS w p (.int .u64 ((M.fixedR z s).1 : Int)) (M.fixedR z s).2) := by
  refine rfixed_at z _ ?_ rfl h
  unfold M.clamp
  split
  · exact .inl ⟨by assumption, rfl⟩
  · split
    · exact .inr (.inl ⟨by assumption, rfl⟩)
    · exact .inr (.inr ⟨by omega, by omega, by omega⟩)
end Go.Proofs.YtahbggdidhmnfaaDoor
