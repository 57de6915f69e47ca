/- Numbers as bytes: groups, PutUint, PutInt, PutText, PutFixed, PutFloat. -/
import Derived.Test.YtahbggdidhmnfaaDoorConcat
namespace Go.Proofs.YtahbggdidhmnfaaDoor
open Go.RowKit

set_option maxRecDepth 100000 in
theorem make10 (w : World) : (Instr.makeSlice 23 (.int .i64 0) (.int .i64 10)).run Tryd.prog w = .ok (.slice (some ⟨w.heap.size, 0, none⟩) 0 10) (w.alloc (.cells (madeCells #[.int .u8 0] 10) 5)) := by
  obtain ⟨i0, hi, hz0, hz1, hz2⟩ := info5all
  have := run_make (P := Tryd.prog) w 23 5 i0 (.int .u8 0) Tryd.underlying23 hi hz0 .i64 .i64 0 10 (by decide) (by omega) (by rw [hz2]; omega) (by omega)
  rw [this, hz1]
  rfl
set_option maxRecDepth 100000 in
theorem At.one (w : World) (c : UInt8) : At (w.alloc (.cells #[.int .u8 (c.toNat : Int)] 5)) (some ⟨w.heap.size, 0, none⟩) [c] := by
  intro j x hj
  refine ⟨_, _, rfl, ?_⟩
  rw [cell_of_row _ _ _ _ _ _ (heap_alloc_new w _)]
  match j, hj with
  | 0, hj => obtain rfl : c = x := Option.some.inj hj; rfl
  | j + 1, hj => simp at hj
set_option maxRecDepth 100000 in
theorem or128 (m : Nat) : bits .or .u8 ((m : Int) % 256) 128 = ((UInt8.ofNat (m % 128 + 128)).toNat : Int) := by
  rw [M.ofNat_toNat _ (by omega), show (m : Int) % 256 = ((m % 256 : Nat) : Int) by omega, show (128 : Int) = ((128 : Nat) : Int) from rfl, u8_or_nat _ _ (by omega) (by omega)]
  congr 1
  have h1 : m % 256 = m % 128 + m / 128 % 2 * 2 ^ 7 := by omega
  have h2 : m % 128 ||| m / 128 % 2 * 2 ^ 7 = m % 128 + m / 128 % 2 * 2 ^ 7 := or_add _ _ 7 (by omega)
  have h3 : m % 128 ||| 128 = m % 128 + 128 := by have := or_add (m % 128) 1 7 (by omega); simpa using this
  rw [h1, ← h2, Nat.or_assoc]
  rcases Nat.mod_two_eq_zero_or_one (m / 128) with h | h
  · rw [h]; simpa using h3
  · rw [h]; simpa using h3

set_option maxRecDepth 100000 in
theorem own_base {w : World} {b b' : Nat} {v : Value} {n : Nat} {xs : List Value} (h : w.ownsRow b 5 1 v n xs) (hb : b' ≤ b) : w.ownsRow b' 5 1 v n xs := by
  obtain ⟨q1, q2⟩ := h
  refine ⟨q1, ?_⟩
  rcases q2 with q2 | ⟨g, cap, cur, q2, q3, q4⟩
  · exact .inl q2
  · exact .inr ⟨g, cap, cur, q2, Nat.le_trans hb q3, q4⟩
set_option maxRecDepth 100000 in
theorem Parts.two {w : World} {x y : Part} (h1 : At w x.a x.bs) (h2 : At w y.a y.bs) (n1 : x.a = none → x.cap = 0) (n2 : y.a = none → y.cap = 0) :
    Parts (w.alloc (.cells #[.slice x.a x.bs.length x.cap, .slice y.a y.bs.length y.cap] 23)) w.heap.size [x, y] := by
  intro j z hj
  have hA : Adds w (w.alloc (.cells #[.slice x.a x.bs.length x.cap, .slice y.a y.bs.length y.cap] 23)) := (Touch.refl _ w).alloc _
  rw [cell_of_row _ _ _ _ _ _ (heap_alloc_new w _)]
  match j, hj with
  | 0, hj => obtain rfl : x = z := Option.some.inj hj; exact ⟨rfl, h1.adds hA, n1⟩
  | 1, hj => obtain rfl : y = z := Option.some.inj hj; exact ⟨rfl, h2.adds hA, n2⟩
  | j + 2, hj => simp at hj
set_option maxRecDepth 100000 in
theorem Parts.three {w : World} {x y u : Part} (h1 : At w x.a x.bs) (h2 : At w y.a y.bs) (h3 : At w u.a u.bs) (n1 : x.a = none → x.cap = 0) (n2 : y.a = none → y.cap = 0) (n3 : u.a = none → u.cap = 0) :
    Parts (w.alloc (.cells #[.slice x.a x.bs.length x.cap, .slice y.a y.bs.length y.cap, .slice u.a u.bs.length u.cap] 23)) w.heap.size [x, y, u] := by
  intro j z hj
  have hA : Adds w (w.alloc (.cells #[.slice x.a x.bs.length x.cap, .slice y.a y.bs.length y.cap, .slice u.a u.bs.length u.cap] 23)) := (Touch.refl _ w).alloc _
  rw [cell_of_row _ _ _ _ _ _ (heap_alloc_new w _)]
  match j, hj with
  | 0, hj => obtain rfl : x = z := Option.some.inj hj; exact ⟨rfl, h1.adds hA, n1⟩
  | 1, hj => obtain rfl : y = z := Option.some.inj hj; exact ⟨rfl, h2.adds hA, n2⟩
  | 2, hj => obtain rfl : u = z := Option.some.inj hj; exact ⟨rfl, h3.adds hA, n3⟩
  | j + 3, hj => simp at hj
set_option maxRecDepth 100000 in
theorem concat_two {w : World} (x y : Part) (h1 : At w x.a x.bs) (h2 : At w y.a y.bs) (n1 : x.a = none → x.cap = 0) (n2 : y.a = none → y.cap = 0) (hl : x.bs.length + y.bs.length ≤ 10000000) :
    Calls Tryd.prog 30 #[.slice (some ⟨w.heap.size, 0, none⟩) 2 2] (w.alloc (.cells #[.slice x.a x.bs.length x.cap, .slice y.a y.bs.length y.cap] 23)) fun e w' => ∃ v, e = .returned v ∧ w'.ownsRow w.heap.size 5 1 v (x.bs ++ y.bs).length (S (x.bs ++ y.bs)) ∧ Adds w w' := by
  have hf : flat [x, y] = x.bs ++ y.bs := by simp [flat]
  refine (concat_any w.heap.size [x, y] _ (by simp) (by rw [hf, List.length_append]; exact hl) (Parts.two h1 h2 n1 n2)).mono ?_
  rintro e w' ⟨v, rfl, h3, h4⟩
  rw [hf] at h3
  exact ⟨v, rfl, own_base h3 (by simp), ((Touch.refl _ w).alloc _).trans h4⟩
set_option maxRecDepth 100000 in
theorem concat_three {w : World} (x y u : Part) (h1 : At w x.a x.bs) (h2 : At w y.a y.bs) (h3 : At w u.a u.bs) (n1 : x.a = none → x.cap = 0) (n2 : y.a = none → y.cap = 0) (n3 : u.a = none → u.cap = 0) (hl : x.bs.length + (y.bs.length + u.bs.length) ≤ 10000000) :
    Calls Tryd.prog 30 #[.slice (some ⟨w.heap.size, 0, none⟩) 3 3] (w.alloc (.cells #[.slice x.a x.bs.length x.cap, .slice y.a y.bs.length y.cap, .slice u.a u.bs.length u.cap] 23)) fun e w' => ∃ v, e = .returned v ∧ w'.ownsRow w.heap.size 5 1 v (x.bs ++ (y.bs ++ u.bs)).length (S (x.bs ++ (y.bs ++ u.bs))) ∧ Adds w w' := by
  have hf : flat [x, y, u] = x.bs ++ (y.bs ++ u.bs) := by simp [flat]
  refine (concat_any w.heap.size [x, y, u] _ (by simp) (by rw [hf, List.length_append, List.length_append]; exact hl) (Parts.three h1 h2 h3 n1 n2 n3)).mono ?_
  rintro e w' ⟨v, rfl, h3, h4⟩
  rw [hf] at h3
  exact ⟨v, rfl, own_base h3 (by simp), ((Touch.refl _ w).alloc _).trans h4⟩

set_option maxRecDepth 100000 in
theorem zig_bits (z : Int) (h0 : -9223372036854775808 ≤ z) (h1 : z ≤ 9223372036854775807) : IntKind.u64.wrap (bits .xor .i64 (wrap64 (z * 2)) (z / 9223372036854775808)) = (M.zig z : Int) := by
  by_cases h : z < 0
  · rw [show z / 9223372036854775808 = -1 by omega, xor_ones, IntKind.wrap_i64, IntKind.wrap_u64, M.zig, if_pos h, wrap64]
    omega
  · rw [show z / 9223372036854775808 = 0 by omega, xor_nought, IntKind.wrap_i64, IntKind.wrap_u64, M.zig, if_neg h, wrap64]
    omega
end Go.Proofs.YtahbggdidhmnfaaDoor
