/- Numbers as bytes: groups, PutUint, PutInt, PutText, PutFixed, PutFloat. -/
import Derived.Test.YtlgbgedkedddaaaDoorConcat
namespace Go.Proofs.YtlgbgedkedddaaaDoor
open Go.RowKit

theorem make10 (w : World) : (Instr.makeSlice 22 (.int .i64 0) (.int .i64 10)).run Tryd.prog w = .ok (.slice (some ⟨w.heap.size, 0, none⟩) 0 10) (w.alloc (.cells (madeCells #[.int .u8 0] 10) 5)) := by
  obtain ⟨i0, hi, hz0, hz1, hz2⟩ := info5all
  have := run_make (P := Tryd.prog) w 22 5 i0 (.int .u8 0) Tryd.underlying22 hi hz0 .i64 .i64 0 10 (by decide) (by omega) (by rw [hz2]; omega) (by omega)
  rw [this, hz1]
  rfl
theorem At.one (w : World) (c : UInt8) : At (w.alloc (.cells #[.int .u8 (c.toNat : Int)] 5)) (some ⟨w.heap.size, 0, none⟩) [c] := by
  intro j x hj
  refine ⟨_, _, rfl, ?_⟩
  rw [cell_of_row _ _ _ _ _ _ (heap_alloc_new w _)]
  match j, hj with
  | 0, hj => obtain rfl : c = x := Option.some.inj hj; rfl
  | j + 1, hj => simp at hj
theorem or128 (m : Nat) : bits .or .u8 ((m : Int) % 256) 128 = ((UInt8.ofNat (m % 128 + 128)).toNat : Int) := by
  rw [M.ofNat_toNat _ (by omega), show (m : Int) % 256 = ((m % 256 : Nat) : Int) by omega, show (128 : Int) = ((128 : Nat) : Int) from rfl, u8_or_nat _ _ (by omega) (by omega)]
  congr 1
  have h1 : m % 256 = m % 128 + m / 128 % 2 * 2 ^ 7 := by omega
  have h2 : m % 128 ||| m / 128 % 2 * 2 ^ 7 = m % 128 + m / 128 % 2 * 2 ^ 7 := or_add _ _ 7 (by omega)
  have h3 : m % 128 ||| 128 = m % 128 + 128 := by have := or_add (m % 128) 1 7 (by omega); simpa using this
  rw [h1, ← h2, Nat.or_assoc]
  rcases Nat.mod_two_eq_zero_or_one (m / 128) with h | h
  · rw [h]; simpa using h3
  · rw [h]; simpa using h3

set_option maxRecDepth 100000 in
set_option maxHeartbeats 1000000 in
theorem groups_any (n : Nat) (hn : n < 18446744073709551616) (w : World) : Calls Tryd.prog 46 #[.int .u64 (n : Int)] w (POwn w (M.enc n)) := by
  have hmk := make10 w
  have HO := hid (World.ownsRow_made (base := w.heap.size) (e := 5) (size := 1) w (madeCells #[.int .u8 0] 10) 10 (Nat.le_refl _) (by unfold maxLen; omega) (by rw [size_madeCells]))
  go_enter Tryd.func46, Tryd.ntmps46
  go_wp2
  go_loopw [0, 3] (fun x v wz => ∃ (m : Nat) (pre : List UInt8), x = .int .u64 (m : Int) ∧ Hid (m ≤ n ∧ pre ++ M.enc m = M.enc n ∧ wz.ownsRow w.heap.size 5 1 v pre.length (S pre) ∧ Adds w wz)) (fun x _ _ => (intOf x).toNat)
  case atStart => exact ⟨n, [], rfl, Nat.le_refl _, rfl, HO.out, (Touch.refl _ w).alloc _⟩
  case round =>
    obtain ⟨m, pre, rfl, HI⟩ := hrel
    have hm : m < 18446744073709551616 := by have := HI.out.1; omega
    have hpl : pre.length ≤ 10 := by have h := congrArg List.length HI.out.2.1; rw [List.length_append] at h; have := M.len_enc10 hn; omega
    have HT := hid (fun (w1 : World) (x : Obj) (v : Value) (hv : wr.ownsRow w.heap.size 5 1 v pre.length (S pre)) (hg : (wr.alloc x).grownBy w1 v.ownBlock) =>
      show Adds w w1 from Touch.grown (HI.out.2.2.2.alloc x) hg (fun j hj hlt => by have := (hv.lt j hj).1; omega))
    by_cases h128 : m < 128
    · obtain ⟨c, hc⟩ : ∃ c : UInt8, c = UInt8.ofNat m := ⟨_, rfl⟩
      obtain rfl : m = c.toNat := by rw [hc, M.ofNat_toNat _ (by omega)]
      have HE := hid (show pre ++ [c] = M.enc n by rw [← HI.out.2.1, M.enc_small h128, ← hc])
      clear hmk hc
      go_wp2_with (first
        | (at_builtin; refine append_bytes rfl _ _ rfl w.heap.size _ pre.length (S pre) rfl (HI.out.2.2.1.kept (World.grownBy_alloc wr _ none) (own_none _)) (some ⟨wr.heap.size, 0, none⟩) [c] 1 rfl (fun e => by cases e) (At.one wr c) (by simp; omega) (by have := HI.out.2.2.2.size; simp; omega) ?_; intro v1 w1 hown1 hgrow1 hne1; have HQ1 := hid (And.intro hown1 hgrow1); clear hown1 hgrow1 hne1))
      go_ret
      refine ⟨_, rfl, ?_, HT.out _ _ _ HI.out.2.2.1 HQ1.out.2⟩
      rw [← HE.out, List.length_append, S, List.map_append]
      exact HQ1.out.1
    · have hor := or128 m
      have HE := hid (show (pre ++ [UInt8.ofNat (m % 128 + 128)]) ++ M.enc (m / 128) = M.enc n by rw [← HI.out.2.1, M.enc_big h128, List.append_assoc]; rfl)
      generalize UInt8.ofNat (m % 128 + 128) = c at *
      clear hmk
      go_wp2_with (first
        | (at_builtin; refine append_bytes rfl _ _ rfl w.heap.size _ pre.length (S pre) rfl (HI.out.2.2.1.kept (World.grownBy_alloc wr _ none) (own_none _)) (some ⟨wr.heap.size, 0, none⟩) [c] 1 rfl (fun e => by cases e) (At.one wr c) (by simp; omega) (by have := HI.out.2.2.2.size; simp; omega) ?_; intro v1 w1 hown1 hgrow1 hne1; have HQ1 := hid (And.intro hown1 hgrow1); clear hown1 hgrow1 hne1))
      go_roundw
      case rel =>
        refine ⟨m / 128, pre ++ [c], by go_num, by have := HI.out.1; omega, HE.out, ?_, HT.out _ _ _ HI.out.2.2.1 HQ1.out.2⟩
        rw [List.length_append, S, List.map_append]
        exact HQ1.out.1
      case measure => simp [intOf]; omega

theorem own_base {w : World} {b b' : Nat} {v : Value} {n : Nat} {xs : List Value} (h : w.ownsRow b 5 1 v n xs) (hb : b' ≤ b) : w.ownsRow b' 5 1 v n xs := by
  obtain ⟨q1, q2⟩ := h
  refine ⟨q1, ?_⟩
  rcases q2 with q2 | ⟨g, cap, cur, q2, q3, q4⟩
  · exact .inl q2
  · exact .inr ⟨g, cap, cur, q2, Nat.le_trans hb q3, q4⟩
theorem Parts.two {w : World} {x y : Part} (h1 : At w x.a x.bs) (h2 : At w y.a y.bs) (n1 : x.a = none → x.cap = 0) (n2 : y.a = none → y.cap = 0) :
    Parts (w.alloc (.cells #[.slice x.a x.bs.length x.cap, .slice y.a y.bs.length y.cap] 22)) w.heap.size [x, y] := by
  intro j z hj
  have hA : Adds w (w.alloc (.cells #[.slice x.a x.bs.length x.cap, .slice y.a y.bs.length y.cap] 22)) := (Touch.refl _ w).alloc _
  rw [cell_of_row _ _ _ _ _ _ (heap_alloc_new w _)]
  match j, hj with
  | 0, hj => obtain rfl : x = z := Option.some.inj hj; exact ⟨rfl, h1.adds hA, n1⟩
  | 1, hj => obtain rfl : y = z := Option.some.inj hj; exact ⟨rfl, h2.adds hA, n2⟩
  | j + 2, hj => simp at hj
theorem Parts.three {w : World} {x y u : Part} (h1 : At w x.a x.bs) (h2 : At w y.a y.bs) (h3 : At w u.a u.bs) (n1 : x.a = none → x.cap = 0) (n2 : y.a = none → y.cap = 0) (n3 : u.a = none → u.cap = 0) :
    Parts (w.alloc (.cells #[.slice x.a x.bs.length x.cap, .slice y.a y.bs.length y.cap, .slice u.a u.bs.length u.cap] 22)) w.heap.size [x, y, u] := by
  intro j z hj
  have hA : Adds w (w.alloc (.cells #[.slice x.a x.bs.length x.cap, .slice y.a y.bs.length y.cap, .slice u.a u.bs.length u.cap] 22)) := (Touch.refl _ w).alloc _
  rw [cell_of_row _ _ _ _ _ _ (heap_alloc_new w _)]
  match j, hj with
  | 0, hj => obtain rfl : x = z := Option.some.inj hj; exact ⟨rfl, h1.adds hA, n1⟩
  | 1, hj => obtain rfl : y = z := Option.some.inj hj; exact ⟨rfl, h2.adds hA, n2⟩
  | 2, hj => obtain rfl : u = z := Option.some.inj hj; exact ⟨rfl, h3.adds hA, n3⟩
  | j + 3, hj => simp at hj
theorem concat_two {w : World} (x y : Part) (h1 : At w x.a x.bs) (h2 : At w y.a y.bs) (n1 : x.a = none → x.cap = 0) (n2 : y.a = none → y.cap = 0) (hl : x.bs.length + y.bs.length ≤ 10000000) :
    Calls Tryd.prog 31 #[.slice (some ⟨w.heap.size, 0, none⟩) 2 2] (w.alloc (.cells #[.slice x.a x.bs.length x.cap, .slice y.a y.bs.length y.cap] 22)) fun e w' => ∃ v, e = .returned v ∧ w'.ownsRow w.heap.size 5 1 v (x.bs ++ y.bs).length (S (x.bs ++ y.bs)) ∧ Adds w w' := by
  have hf : flat [x, y] = x.bs ++ y.bs := by simp [flat]
  refine (concat_any w.heap.size [x, y] _ (by simp) (by rw [hf, List.length_append]; exact hl) (Parts.two h1 h2 n1 n2)).mono ?_
  rintro e w' ⟨v, rfl, h3, h4⟩
  rw [hf] at h3
  exact ⟨v, rfl, own_base h3 (by simp), ((Touch.refl _ w).alloc _).trans h4⟩
theorem concat_three {w : World} (x y u : Part) (h1 : At w x.a x.bs) (h2 : At w y.a y.bs) (h3 : At w u.a u.bs) (n1 : x.a = none → x.cap = 0) (n2 : y.a = none → y.cap = 0) (n3 : u.a = none → u.cap = 0) (hl : x.bs.length + (y.bs.length + u.bs.length) ≤ 10000000) :
    Calls Tryd.prog 31 #[.slice (some ⟨w.heap.size, 0, none⟩) 3 3] (w.alloc (.cells #[.slice x.a x.bs.length x.cap, .slice y.a y.bs.length y.cap, .slice u.a u.bs.length u.cap] 22)) fun e w' => ∃ v, e = .returned v ∧ w'.ownsRow w.heap.size 5 1 v (x.bs ++ (y.bs ++ u.bs)).length (S (x.bs ++ (y.bs ++ u.bs))) ∧ Adds w w' := by
  have hf : flat [x, y, u] = x.bs ++ (y.bs ++ u.bs) := by simp [flat]
  refine (concat_any w.heap.size [x, y, u] _ (by simp) (by rw [hf, List.length_append, List.length_append]; exact hl) (Parts.three h1 h2 h3 n1 n2 n3)).mono ?_
  rintro e w' ⟨v, rfl, h3, h4⟩
  rw [hf] at h3
  exact ⟨v, rfl, own_base h3 (by simp), ((Touch.refl _ w).alloc _).trans h4⟩

set_option maxHeartbeats 400000 in
theorem putUint_any (a : Option Addr) (bs : List UInt8) (cap n : Nat) (w : World) (hl : bs.length ≤ 1000000) (hn : n < 18446744073709551616) (hcap : a = none → cap = 0) (hA : At w a bs) : Calls Tryd.prog 47 #[.slice a bs.length cap, .int .u64 (n : Int)] w (POwn w (bs ++ M.enc n)) := by
  have H := hid (groups_any n hn w)
  have HL := hid hl
  have HA := hid (And.intro hA hcap)
  have h10 := M.len_enc10 hn
  clear hA hl hcap
  go_enter Tryd.func47, Tryd.ntmps47
  go_wp2_with (first
    | (go_at_call 46; refine H.out.mono ?_; rintro e w1 ⟨v1, rfl, h1, h2⟩; obtain ⟨a1, cap1, rfl, hL1⟩ := Own.lies h1; have HQ := hid (And.intro hL1 h2); clear h1 h2 hL1)
    | (go_at_call 31; refine (concat_two (w := w1) ⟨a, bs, cap⟩ ⟨a1, M.enc n, cap1⟩ (HA.out.1.adds HQ.out.2) HQ.out.1.at_ HA.out.2 HQ.out.1.non (by have := HL.out; simp; omega)).mono ?_; rintro e w2 ⟨v2, rfl, h1, h2⟩; have HZ := hid (And.intro h1 h2); clear h1 h2))
  go_ret
  exact ⟨_, rfl, own_base HZ.out.1 HQ.out.2.size, HQ.out.2.trans HZ.out.2⟩
theorem zig_bits (z : Int) (h0 : -9223372036854775808 ≤ z) (h1 : z ≤ 9223372036854775807) : IntKind.u64.wrap (bits .xor .i64 (wrap64 (z * 2)) (z / 9223372036854775808)) = (M.zig z : Int) := by
  by_cases h : z < 0
  · rw [show z / 9223372036854775808 = -1 by omega, xor_ones, IntKind.wrap_i64, IntKind.wrap_u64, M.zig, if_pos h, wrap64]
    omega
  · rw [show z / 9223372036854775808 = 0 by omega, xor_nought, IntKind.wrap_i64, IntKind.wrap_u64, M.zig, if_neg h, wrap64]
    omega
end Go.Proofs.YtlgbgedkedddaaaDoor
