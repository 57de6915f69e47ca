/- The small functions at the values of the chapter's examples. -/
import Derived.Test.YtjmldloalieelaaPutV
import Derived.Deep.DeepFit
namespace Go.Proofs.Ytjmldloalieelaa
open Go.RowKit

set_option maxHeartbeats 400000 in
theorem number_any (n : Int) (w : World) : Calls Try.prog 24 #[.int .i64 n] w (Tells w (.agg #[.int .i64 2, .int .i64 n, .float .f64 0, .string ⟨#[]⟩])) := by
  have hs := hst
  go_enter Try.func24, Try.ntmps24
  go_wp2
  refine bodyPost_ret (v := .agg #[.int .i64 2, .int .i64 n, .float .f64 0, .string ⟨#[]⟩]) (by simp [results, Try.results24, go_sem]) rfl ⟨rfl, ?_⟩
  first | exact (Touch.refl _ w).alloc _ | exact set4 w.heap.size (Nat.le_refl _) ((Touch.refl _ w).alloc _)
set_option maxHeartbeats 400000 in
theorem boolOf_any (n : Int) (w : World) : Calls Try.prog 38 #[.int .i64 n] w (Tells w (.agg #[.int .i64 1, .int .i64 n, .float .f64 0, .string ⟨#[]⟩])) := by
  have hs := hst
  go_enter Try.func38, Try.ntmps38
  go_wp2
  refine bodyPost_ret (v := .agg #[.int .i64 1, .int .i64 n, .float .f64 0, .string ⟨#[]⟩]) (by simp [results, Try.results38, go_sem]) rfl ⟨rfl, ?_⟩
  first | exact (Touch.refl _ w).alloc _ | exact set4 w.heap.size (Nat.le_refl _) ((Touch.refl _ w).alloc _)
set_option maxHeartbeats 400000 in
theorem floatV_any (b : Nat) (w : World) : Calls Try.prog 39 #[.float .f64 b] w (Tells w (.agg #[.int .i64 3, .int .i64 0, .float .f64 b, .string ⟨#[]⟩])) := by
  have hs := hst
  go_enter Try.func39, Try.ntmps39
  go_wp2
  refine bodyPost_ret (v := .agg #[.int .i64 3, .int .i64 0, .float .f64 b, .string ⟨#[]⟩]) (by simp [results, Try.results39, go_sem]) rfl ⟨rfl, ?_⟩
  first | exact (Touch.refl _ w).alloc _ | exact set4 w.heap.size (Nat.le_refl _) ((Touch.refl _ w).alloc _)
theorem box_here {w w' : World} {cs : Array Value} (h : Adds (w.alloc (.cells cs 24)) w') : w'.heap[w.heap.size]? = some (.cells cs 24 (0, 0)) := kept h (heap_alloc_new w _)
set_option maxHeartbeats 400000 in
theorem truth0 (w : World) : Calls Try.prog 31 #[.bool false] w (Tells w (.agg #[.int .i64 1, .int .i64 0, .float .f64 0, .string ⟨#[]⟩])) := by
  have hs := hst
  go_enter Try.func31, Try.ntmps31
  go_wp2_with (first | (go_at_call 38; refine (boolOf_any _ _).mono ?_; rintro e w1 ⟨rfl, hA⟩; have b1 := box_here hA; have c0 := cellOf b1 0; have c1 := cellOf b1 1; have c2 := cellOf b1 2; have c3 := cellOf b1 3; have f0 := frozen_of_row w1 _ 0 _ 24 b1; have f1 := frozen_of_row w1 _ 1 _ 24 b1; have f2 := frozen_of_row w1 _ 2 _ 24 b1; have f3 := frozen_of_row w1 _ 3 _ 24 b1; have HA := hid hA; clear b1 hA; simp at c0 c1 c2 c3))
  refine bodyPost_ret (v := .agg #[.int .i64 1, .int .i64 0, .float .f64 0, .string ⟨#[]⟩]) (by simp [results, Try.results31, go_sem, c0, c1, c2, c3]) rfl ⟨rfl, ?_⟩
  exact set4 w.heap.size (Nat.le_refl _) (((Touch.refl _ w).alloc _).trans HA.out)
theorem right_at (k n : Int) (b : Nat) (x : Bool) (h : M.right ⟨k, n, b, []⟩ = x) (w : World) : Calls Try.prog 22 #[.agg #[.int .i64 k, .int .i64 n, .float .f64 b, .string ⟨#[]⟩]] w (Tells w (.bool x)) := by
  have := right_any ⟨k, n, b, []⟩ w
  rw [h] at this
  exact this
theorem right_int (n : Int) : M.right ⟨2, n, 0, []⟩ = true := by
  rw [M.right_iff]
  exact ⟨by simp, by simp, by simp, fun _ => (by decide : M.zero 0 = true), fun _ => rfl, by simp⟩
set_option maxHeartbeats 400000 in
theorem canReckon_int (n : Int) (w : World) : Calls Try.prog 23 #[.agg #[.int .i64 2, .int .i64 n, .float .f64 0, .string ⟨#[]⟩]] w (Tells w (.bool true)) := by
  have H := hid (right_at 2 n 0 true (right_int n))
  go_enter Try.func23, Try.ntmps23
  go_wp2_with (first | (go_at_call 22; refine (H.out _).mono ?_; rintro e w1 ⟨rfl, hA⟩; have b1 := box_here hA; have c0 := cellOf b1 0; have HA := hid hA; clear b1 hA; simp at c0))
  go_ret
  exact ⟨rfl, ((Touch.refl _ w).alloc _).trans HA.out⟩
set_option maxHeartbeats 400000 in
theorem mayBeTrue_at (k : Int) (hk : k = 0 ∨ k = 1) (w : World) : Calls Try.prog 36 #[.agg #[.int .i64 k, .int .i64 0, .float .f64 0, .string ⟨#[]⟩]] w (Tells w (.bool true)) := by
  have H := hid (right_at k 0 0 true (by rcases hk with rfl | rfl <;> decide))
  rcases hk with rfl | rfl
  all_goals
    go_enter Try.func36, Try.ntmps36
    go_wp2_with (first | (go_at_call 22; refine (H.out _).mono ?_; rintro e w1 ⟨rfl, hA⟩; have b1 := box_here hA; have c0 := cellOf b1 0; have HA := hid hA; clear b1 hA; simp at c0))
    go_ret
    exact ⟨rfl, ((Touch.refl _ w).alloc _).trans HA.out⟩
set_option maxHeartbeats 400000 in
theorem reckon_add (w : World) : Calls Try.prog 25 #[.int .i64 3, .int .i64 9223372036854775807, .int .i64 1] w fun e w' => e = .returned (.int .i64 (-9223372036854775808)) ∧ w' = w := by
  have hw : wrap64 9223372036854775808 = -9223372036854775808 := by simp [wrap64]
  go_enter Try.func25, Try.ntmps25
  go_wp2
  go_ret
  exact ⟨by show Ending.returned (.int .i64 (wrap64 9223372036854775808)) = _; rw [hw], rfl⟩
set_option maxHeartbeats 400000 in
theorem copysign_any (w : World) : Calls Try.prog 40 #[.float .f64 0, .float .f64 13830554455654793216] w fun e w' => e = .returned (.float .f64 9223372036854775808) ∧ w' = w := by
  have x1 : ∀ w, (callFunc 56 #[.float .f64 0]).run Try.prog w = .ok (.value (.int .u64 0)) w := ext47 0
  have x2 : ∀ w, (callFunc 56 #[.float .f64 13830554455654793216]).run Try.prog w = .ok (.value (.int .u64 13830554455654793216)) w := ext47 13830554455654793216
  have x3 : ∀ w, (callFunc 57 #[.int .u64 9223372036854775808]).run Try.prog w = .ok (.value (.float .f64 9223372036854775808)) w := ext48 9223372036854775808
  have y1 : bits .andNot .u64 0 9223372036854775808 = 0 := by kernel_rfl
  have y2 : bits .and .u64 13830554455654793216 9223372036854775808 = 9223372036854775808 := by kernel_rfl
  have y3 : bits .or .u64 0 9223372036854775808 = 9223372036854775808 := by kernel_rfl
  go_enter Try.func40, Try.ntmps40
  go_wp2
  go_ret
  exact ⟨rfl, rfl⟩
set_option maxHeartbeats 400000 in
theorem inf_any (w : World) : Calls Try.prog 41 #[.int .i64 1] w fun e w' => e = .returned (.float .f64 9218868437227405312) ∧ w' = w := by
  have x3 : ∀ w, (callFunc 57 #[.int .u64 9218868437227405312]).run Try.prog w = .ok (.value (.float .f64 9218868437227405312)) w := ext48 9218868437227405312
  go_enter Try.func41, Try.ntmps41
  go_wp2
  go_ret
  exact ⟨rfl, rfl⟩
set_option maxHeartbeats 400000 in
theorem nan_any (w : World) : Calls Try.prog 42 #[] w fun e w' => e = .returned (.float .f64 9221120237041090561) ∧ w' = w := by
  have x3 : ∀ w, (callFunc 57 #[.int .u64 9221120237041090561]).run Try.prog w = .ok (.value (.float .f64 9221120237041090561)) w := ext48 9221120237041090561
  go_enter Try.func42, Try.ntmps42
  go_wp2
  go_ret
  exact ⟨rfl, rfl⟩
end Go.Proofs.Ytjmldloalieelaa
