/- The leaves: a float's bits, a size within bounds, what a reader tells of itself, a refusal. -/
import Derived.Test.YtahbggdidhmnfaaDoorState
namespace Go.Proofs.YtahbggdidhmnfaaDoor
open Go.RowKit

set_option maxHeartbeats 400000 in
theorem within_any (z : Int) (w : World) : Calls Tryd.prog 31 #[.int .i64 z] w fun e w' => e = .returned (.int .i64 (M.clamp z : Int)) ∧ w' = w := by
  by_cases h : z < 0
  · rw [M.clamp, if_pos h]
    go_enter Tryd.func31, Tryd.ntmps31
    go_wp2
    all_goals (first | omega | (go_ret; exact ⟨rfl, rfl⟩))
  · by_cases h2 : 8 < z
    · rw [M.clamp, if_neg h, if_pos h2]
      go_enter Tryd.func31, Tryd.ntmps31
      go_wp2
      all_goals (first | omega | (go_ret; exact ⟨rfl, rfl⟩))
    · rw [M.clamp, if_neg h, if_neg h2, Int.toNat_of_nonneg (by omega)]
      go_enter Tryd.func31, Tryd.ntmps31
      go_wp2
      all_goals (first | omega | (go_ret; exact ⟨rfl, rfl⟩))
set_option maxHeartbeats 400000 in
theorem err_nil (w : World) : Calls Tryd.prog 51 #[.pointer none] w fun e w' => e = .returned (.int .i64 1) ∧ w' = w := by
  go_enter Tryd.func51, Tryd.ntmps51
  go_wp2
  go_ret
  exact ⟨rfl, rfl⟩
set_option maxHeartbeats 400000 in
theorem err_no (p : Nat) (w : World) (c0 : w.cell? ⟨p, 0, none⟩ = some (.bool false)) : Calls Tryd.prog 51 #[.pointer (some ⟨p, 0, none⟩)] w fun e w' => e = .returned (.int .i64 1) ∧ w' = w := by
  go_enter Tryd.func51, Tryd.ntmps51
  go_wp2
  go_ret
  exact ⟨rfl, rfl⟩
set_option maxHeartbeats 400000 in
theorem err_yes (p : Nat) (n : Int) (w : World) (c0 : w.cell? ⟨p, 0, none⟩ = some (.bool true)) (c1 : w.cell? ⟨p, 1, none⟩ = some (.int .i64 n)) : Calls Tryd.prog 51 #[.pointer (some ⟨p, 0, none⟩)] w fun e w' => e = .returned (.int .i64 n) ∧ w' = w := by
  go_enter Tryd.func51, Tryd.ntmps51
  go_wp2
  go_ret
  exact ⟨rfl, rfl⟩
theorem err_any {v : Value} {s : M.St} {w : World} (h : RD w v s) : Calls Tryd.prog 51 #[v] w fun e w' => e = .returned (.int .i64 (s.e : Int)) ∧ w' = w := by
  rcases h with ⟨rfl, rfl⟩ | ⟨p, rfl, hb, rfl⟩ | ⟨p, rfl, h⟩
  · exact err_nil w
  · exact err_no p w (cellOf hb 0)
  · obtain ⟨a, cap, hb, _⟩ := h.box
    exact err_yes p _ w (cellOf hb 0) (cellOf hb 1)
set_option maxHeartbeats 400000 in
theorem refuse_box (p : Nat) (x0 x1 x2 : Value) (n : Int) (w : World) (hb : w.heap[p]? = some (.cells #[x0, x1, x2] 74 (0, 0))) :
    Calls Tryd.prog 52 #[.pointer (some ⟨p, 0, none⟩), .int .i64 n] w fun e w' => e = .returned (.tuple #[]) ∧ w' = w.setRow p #[x0, .int .i64 n, .slice none 0 0] := by
  have c1 : w.cell? ⟨p, 1, none⟩ = some x1 := cellOf hb 1
  have c2 : w.cell? ⟨p, 2, none⟩ = some x2 := cellOf hb 2
  have f1 : w.frozen? ⟨p, 1, none⟩ = false := frozen_of_row w p 1 _ 74 hb
  have f2 : w.frozen? ⟨p, 2, none⟩ = false := frozen_of_row w p 2 _ 74 hb
  have e1 : w.setCell ⟨p, 1, none⟩ (.int .i64 n) = w.setRow p #[x0, .int .i64 n, x2] := setCell_eq_setRow w p 1 _ 74 _ _ hb
  have E2 := hid (show (w.setCell ⟨p, 1, none⟩ (.int .i64 n)).setCell ⟨p, 2, none⟩ (.slice none 0 0) = w.setRow p #[x0, .int .i64 n, .slice none 0 0] by
    rw [e1, setCell_eq_setRow _ p 2 _ 74 _ _ (setRow_heap w p _ _ 74 _ hb), setRow_setRow]; rfl)
  clear e1 hb
  go_enter Tryd.func52, Tryd.ntmps52
  go_wp2
  go_end0
  exact ⟨rfl, E2.out⟩
set_option maxHeartbeats 400000 in
theorem bad_box (p : Nat) (x0 x1 : Value) (n : Int) (w : World) (hb : w.heap[p]? = some (.cells #[x0, x1] 53 (0, 0))) :
    Calls Tryd.prog 49 #[.pointer (some ⟨p, 0, none⟩), .int .i64 n] w fun e w' => e = .returned (.tuple #[]) ∧ w' = w.setRow p #[.slice none 0 0, .int .i64 n] := by
  have c1 : w.cell? ⟨p, 1, none⟩ = some x1 := cellOf hb 1
  have c2 : w.cell? ⟨p, 0, none⟩ = some x0 := cellOf hb 0
  have f1 : w.frozen? ⟨p, 1, none⟩ = false := frozen_of_row w p 1 _ 53 hb
  have f2 : w.frozen? ⟨p, 0, none⟩ = false := frozen_of_row w p 0 _ 53 hb
  have e1 : w.setCell ⟨p, 1, none⟩ (.int .i64 n) = w.setRow p #[x0, .int .i64 n] := setCell_eq_setRow w p 1 _ 53 _ _ hb
  have E2 := hid (show (w.setCell ⟨p, 1, none⟩ (.int .i64 n)).setCell ⟨p, 0, none⟩ (.slice none 0 0) = w.setRow p #[.slice none 0 0, .int .i64 n] by
    rw [e1, setCell_eq_setRow _ p 0 _ 53 _ _ (setRow_heap w p _ _ 53 _ hb), setRow_setRow]; rfl)
  clear e1 hb
  go_enter Tryd.func49, Tryd.ntmps49
  go_wp2
  go_end0
  exact ⟨rfl, E2.out⟩
end Go.Proofs.YtahbggdidhmnfaaDoor
