/- The leaves: a float's bits, a size within bounds, what a reader tells of itself, a refusal. -/
import Derived.Test.YtkkmbpcmkhikkaaState
namespace Go.Proofs.Ytkkmbpcmkhikkaa
open Go.RowKit

theorem ext47 (b : Nat) (w : World) : (callFunc 76 #[.float .f64 b]).run Try.prog w = .ok (.value (.int .u64 (b : Int))) w := by
  rw [run_callFunc_extern (e := Extern.MathFloatBits.float64bits) Try.func76 (by kernel_rfl) (by kernel_rfl) (by kernel_rfl) (by kernel_rfl)]
  rfl
theorem ext48 (n : Nat) (w : World) : (callFunc 68 #[.int .u64 (n : Int)]).run Try.prog w = .ok (.value (.float .f64 n)) w := by
  rw [run_callFunc_extern (e := Extern.MathFloatBits.float64frombits) Try.func68 (by kernel_rfl) (by kernel_rfl) (by kernel_rfl) (by kernel_rfl)]
  rfl

set_option maxHeartbeats 400000 in
theorem bitsOf_any (b : Nat) (w : World) : Calls Try.prog 69 #[.float .f64 b] w fun e w' => e = .returned (.int .u64 (M.canon b : Int)) ∧ w' = w := by
  have hx := ext47 b
  by_cases h1 : M.nan b = true
  · have n1 : (FloatKind.f64.format.order b b != some .eq) = true := h1
    have hc : M.canon b = 9221120237041090561 := by rw [M.canon, if_pos h1]
    rw [hc]
    clear hc h1
    go_enter Try.func69, Try.ntmps69
    go_wp2
    go_ret
    exact ⟨rfl, rfl⟩
  · have n1 : (FloatKind.f64.format.order b b != some .eq) = false := Bool.eq_false_iff.2 h1
    by_cases h2 : M.zero b = true
    · have n2 : (FloatKind.f64.format.order b 0 == some .eq) = true := h2
      have hc : M.canon b = 0 := by rw [M.canon, if_neg h1, if_pos h2]
      rw [hc]
      clear hc h1 h2
      go_enter Try.func69, Try.ntmps69
      go_wp2
      go_ret
      exact ⟨rfl, rfl⟩
    · have n2 : (FloatKind.f64.format.order b 0 == some .eq) = false := Bool.eq_false_iff.2 h2
      have hc : M.canon b = b := by rw [M.canon, if_neg h1, if_neg h2]
      rw [hc]
      clear hc h1 h2
      go_enter Try.func69, Try.ntmps69
      go_wp2
      go_ret
      exact ⟨rfl, rfl⟩
set_option maxHeartbeats 400000 in
theorem within_any (z : Int) (w : World) : Calls Try.prog 75 #[.int .i64 z] w fun e w' => e = .returned (.int .i64 (M.clamp z : Int)) ∧ w' = w := by
  by_cases h : z < 0
  · rw [M.clamp, if_pos h]
    go_enter Try.func75, Try.ntmps75
    go_wp2
    all_goals (first | omega | (go_ret; exact ⟨rfl, rfl⟩))
  · by_cases h2 : 8 < z
    · rw [M.clamp, if_neg h, if_pos h2]
      go_enter Try.func75, Try.ntmps75
      go_wp2
      all_goals (first | omega | (go_ret; exact ⟨rfl, rfl⟩))
    · rw [M.clamp, if_neg h, if_neg h2, Int.toNat_of_nonneg (by omega)]
      go_enter Try.func75, Try.ntmps75
      go_wp2
      all_goals (first | omega | (go_ret; exact ⟨rfl, rfl⟩))
set_option maxHeartbeats 400000 in
theorem err_nil (w : World) : Calls Try.prog 33 #[.pointer none] w fun e w' => e = .returned (.int .i64 1) ∧ w' = w := by
  go_enter Try.func33, Try.ntmps33
  go_wp2
  go_ret
  exact ⟨rfl, rfl⟩
set_option maxHeartbeats 400000 in
theorem err_no (p : Nat) (w : World) (c0 : w.cell? ⟨p, 0, none⟩ = some (.bool false)) : Calls Try.prog 33 #[.pointer (some ⟨p, 0, none⟩)] w fun e w' => e = .returned (.int .i64 1) ∧ w' = w := by
  go_enter Try.func33, Try.ntmps33
  go_wp2
  go_ret
  exact ⟨rfl, rfl⟩
set_option maxHeartbeats 400000 in
theorem err_yes (p : Nat) (n : Int) (w : World) (c0 : w.cell? ⟨p, 0, none⟩ = some (.bool true)) (c1 : w.cell? ⟨p, 1, none⟩ = some (.int .i64 n)) : Calls Try.prog 33 #[.pointer (some ⟨p, 0, none⟩)] w fun e w' => e = .returned (.int .i64 n) ∧ w' = w := by
  go_enter Try.func33, Try.ntmps33
  go_wp2
  go_ret
  exact ⟨rfl, rfl⟩
theorem err_any {v : Value} {s : M.St} {w : World} (h : RD w v s) : Calls Try.prog 33 #[v] w fun e w' => e = .returned (.int .i64 (s.e : Int)) ∧ w' = w := by
  rcases h with ⟨rfl, rfl⟩ | ⟨p, rfl, hb, rfl⟩ | ⟨p, rfl, h⟩
  · exact err_nil w
  · exact err_no p w (cellOf hb 0)
  · obtain ⟨a, cap, hb, _⟩ := h.box
    exact err_yes p _ w (cellOf hb 0) (cellOf hb 1)
set_option maxHeartbeats 400000 in
theorem left_nil (w : World) : Calls Try.prog 17 #[.pointer none] w fun e w' => e = .returned (.int .i64 0) ∧ w' = w := by
  go_enter Try.func17, Try.ntmps17
  go_wp2
  go_ret
  exact ⟨rfl, rfl⟩
set_option maxHeartbeats 400000 in
theorem left_yes (p : Nat) (a : Option Addr) (n cap : Nat) (w : World) (c2 : w.cell? ⟨p, 2, none⟩ = some (.slice a n cap)) : Calls Try.prog 17 #[.pointer (some ⟨p, 0, none⟩)] w fun e w' => e = .returned (.int .i64 (n : Int)) ∧ w' = w := by
  go_enter Try.func17, Try.ntmps17
  go_wp2
  go_ret
  exact ⟨rfl, rfl⟩
theorem left_any {v : Value} {s : M.St} {w : World} (h : RD w v s) : Calls Try.prog 17 #[v] w fun e w' => e = .returned (.int .i64 (s.l.length : Int)) ∧ w' = w := by
  rcases h with ⟨rfl, rfl⟩ | ⟨p, rfl, hb, rfl⟩ | ⟨p, rfl, h⟩
  · exact left_nil w
  · exact left_yes p none 0 0 w (cellOf hb 2)
  · obtain ⟨a, cap, hb, _⟩ := h.box
    exact left_yes p _ _ _ w (cellOf hb 2)
set_option maxHeartbeats 400000 in
theorem refuse_box (p : Nat) (x0 x1 x2 : Value) (n : Int) (w : World) (hb : w.heap[p]? = some (.cells #[x0, x1, x2] 61 (0, 0))) :
    Calls Try.prog 49 #[.pointer (some ⟨p, 0, none⟩), .int .i64 n] w fun e w' => e = .returned (.tuple #[]) ∧ w' = w.setRow p #[x0, .int .i64 n, .slice none 0 0] := by
  have c1 : w.cell? ⟨p, 1, none⟩ = some x1 := cellOf hb 1
  have c2 : w.cell? ⟨p, 2, none⟩ = some x2 := cellOf hb 2
  have f1 : w.frozen? ⟨p, 1, none⟩ = false := frozen_of_row w p 1 _ 61 hb
  have f2 : w.frozen? ⟨p, 2, none⟩ = false := frozen_of_row w p 2 _ 61 hb
  have e1 : w.setCell ⟨p, 1, none⟩ (.int .i64 n) = w.setRow p #[x0, .int .i64 n, x2] := setCell_eq_setRow w p 1 _ 61 _ _ hb
  have E2 := hid (show (w.setCell ⟨p, 1, none⟩ (.int .i64 n)).setCell ⟨p, 2, none⟩ (.slice none 0 0) = w.setRow p #[x0, .int .i64 n, .slice none 0 0] by
    rw [e1, setCell_eq_setRow _ p 2 _ 61 _ _ (setRow_heap w p _ _ 61 _ hb), setRow_setRow]; rfl)
  clear e1 hb
  go_enter Try.func49, Try.ntmps49
  go_wp2
  go_end0
  exact ⟨rfl, E2.out⟩
end Go.Proofs.Ytkkmbpcmkhikkaa
