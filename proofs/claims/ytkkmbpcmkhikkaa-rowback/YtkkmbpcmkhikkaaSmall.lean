/- The small functions at the values of the chapter's examples. -/
import Derived.Test.YtkkmbpcmkhikkaaPutV
import Derived.Deep.DeepFit
namespace Go.Proofs.Ytkkmbpcmkhikkaa
open Go.RowKit

set_option maxHeartbeats 400000 in
theorem number_any (n : Int) (w : World) : Calls Try.prog 35 #[.int .i64 n] w (Tells w (.agg #[.int .i64 2, .int .i64 n, .float .f64 0, .string ⟨#[]⟩])) := by
  have hs := hst
  go_enter Try.func35, Try.ntmps35
  go_wp2
  refine bodyPost_ret (v := .agg #[.int .i64 2, .int .i64 n, .float .f64 0, .string ⟨#[]⟩]) (by simp [results, Try.results35, go_sem]) rfl ⟨rfl, ?_⟩
  first | exact (Touch.refl _ w).alloc _ | exact set4 w.heap.size (Nat.le_refl _) ((Touch.refl _ w).alloc _)
theorem box_here {w w' : World} {cs : Array Value} (h : Adds (w.alloc (.cells cs 47)) w') : w'.heap[w.heap.size]? = some (.cells cs 47 (0, 0)) := kept h (heap_alloc_new w _)
theorem right_at (k n : Int) (b : Nat) (x : Bool) (h : M.right ⟨k, n, b, []⟩ = x) (w : World) : Calls Try.prog 28 #[.agg #[.int .i64 k, .int .i64 n, .float .f64 b, .string ⟨#[]⟩]] w (Tells w (.bool x)) := by
  have := right_any ⟨k, n, b, []⟩ w
  rw [h] at this
  exact this
theorem right_int (n : Int) : M.right ⟨2, n, 0, []⟩ = true := by
  rw [M.right_iff]
  exact ⟨by simp, by simp, by simp, fun _ => (by decide : M.zero 0 = true), fun _ => rfl, by simp⟩
end Go.Proofs.Ytkkmbpcmkhikkaa
