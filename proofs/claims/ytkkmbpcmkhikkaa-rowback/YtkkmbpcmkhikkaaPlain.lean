/- A value in its one form. -/
import Derived.Test.YtkkmbpcmkhikkaaRight
namespace Go.Proofs.Ytkkmbpcmkhikkaa
open Go.RowKit

set_option maxHeartbeats 400000 in
theorem isNaN_any (b : Nat) (w : World) : Calls Try.prog 59 #[.float .f64 b] w fun e w' => e = .returned (.bool (M.nan b)) ∧ w' = w := by
  have hn : (FloatKind.f64.format.order b b != some .eq) = M.nan b := rfl
  go_enter Try.func59, Try.ntmps59
  go_wp2
  go_ret
  exact ⟨rfl, rfl⟩
set_option maxHeartbeats 400000 in
theorem plainFloat_any (b : Nat) (w : World) : Calls Try.prog 58 #[.float .f64 b] w fun e w' => e = .returned (.float .f64 (M.canon b)) ∧ w' = w := by
  have H := hid (isNaN_any b)
  have hx : ∀ w, (callFunc 68 #[.int .u64 9221120237041090561]).run Try.prog w = .ok (.value (.float .f64 9221120237041090561)) w := ext48 9221120237041090561
  by_cases h1 : M.nan b = true
  · rw [M.canon, if_pos h1]
    rw [h1] at H
    clear h1
    go_enter Try.func58, Try.ntmps58
    go_wp2_with (first | (go_at_call 59; refine (H.out _).mono ?_; rintro e w' ⟨rfl, hw⟩; obtain rfl := hw.symm))
    go_ret
    exact ⟨rfl, rfl⟩
  · rw [M.canon, if_neg h1]
    rw [Bool.eq_false_iff.2 h1] at H
    by_cases h2 : M.zero b = true
    · rw [if_pos h2]
      have n2 : (FloatKind.f64.format.order b 0 == some .eq) = true := h2
      clear h1 h2
      go_enter Try.func58, Try.ntmps58
      go_wp2_with (first | (go_at_call 59; refine (H.out _).mono ?_; rintro e w' ⟨rfl, hw⟩; obtain rfl := hw.symm))
      go_ret
      exact ⟨rfl, rfl⟩
    · rw [if_neg h2]
      have n2 : (FloatKind.f64.format.order b 0 == some .eq) = false := Bool.eq_false_iff.2 h2
      clear h1 h2
      go_enter Try.func58, Try.ntmps58
      go_wp2_with (first | (go_at_call 59; refine (H.out _).mono ?_; rintro e w' ⟨rfl, hw⟩; obtain rfl := hw.symm))
      go_ret
      exact ⟨rfl, rfl⟩
theorem kept {w w' : World} {p : Nat} {o : Obj} (hA : Adds w w') (h : w.heap[p]? = some o) : w'.heap[p]? = some o := by
  have hp : p < w.heap.size := by
    rcases Nat.lt_or_ge p w.heap.size with h1 | h1
    · exact h1
    · rw [Array.getElem?_eq_none h1] at h; cases h
  rw [hA.block p hp id]; exact h
/-- A value that lies in block p. -/
def Box (w : World) (p : Nat) (v : M.V) : Prop := w.heap[p]? = some (.cells #[.int .i64 v.k, .int .i64 v.n, .float .f64 v.b, .string ⟨v.t.toArray⟩] 47 (0, 0))
theorem Box.adds {w w' : World} {p : Nat} {v : M.V} (h : Box w p v) (hA : Adds w w') : Box w' p v := kept hA h
theorem Box.fresh (w : World) (v : M.V) : Box (w.alloc (.cells #[.int .i64 v.k, .int .i64 v.n, .float .f64 v.b, .string ⟨v.t.toArray⟩] 47)) w.heap.size v := heap_alloc_new w _
theorem alloc_adds (w : World) (o : Obj) : Adds w (w.alloc o) := (Touch.refl _ w).alloc o
set_option maxHeartbeats 1000000 in
theorem plain_any (v : M.V) (w : World) : Calls Try.prog 42 #[VV v] w (Tells w (VV (M.plain v))) := by
  have HR := hid (right_any v)
  have HF := hid (plainFloat_any v.b)
  have HB := hid (fun o : Obj => (Box.fresh w v).adds (alloc_adds _ o))
  have hst : ∀ (w : World) (a : Addr) (x : Nat) (m : Mode), (store a (.float .f64 x) m).run Try.prog w = stored Try.prog w a (.float .f64 x) m := fun w a x m => run_store _ _ _ _ _ rfl
  have HC := hid (fun o : Obj => (show Box ((w.alloc o).alloc (.cells #[.int .i64 0, .int .i64 0, .float .f64 0, .string ⟨#[]⟩] 47)) (w.heap.size + 1) M.V0 by
    have h := Box.fresh (w.alloc o) M.V0
    simp only [World.size_alloc] at h
    exact h))
  obtain ⟨k, n, b, t⟩ := v
  unfold VV at HR ⊢
  by_cases hr : M.right ⟨k, n, b, t⟩ = true
  · rw [M.plain, if_pos hr]
    rw [hr] at HR
    clear hr
    go_enter Try.func42, Try.ntmps42
    go_wp2_with (first
     | (go_at_call 28; refine (HR.out _).mono ?_; rintro e w1 ⟨rfl, hA⟩; have b1 := (HB.out _).adds hA; have b2 := (HC.out _).adds hA; have c0 := cellOf b1 0; have c1 := cellOf b1 1; have c2 := cellOf b1 2; have c3 := cellOf b1 3; have f0 := frozen_of_row w1 _ 2 _ 47 b1; have d0 := cellOf b2 0; have d1 := cellOf b2 1; have d2 := cellOf b2 2; have d3 := cellOf b2 3; have g0 := frozen_of_row w1 _ 0 _ 47 b2; have g1 := frozen_of_row w1 _ 1 _ 47 b2; have g2 := frozen_of_row w1 _ 2 _ 47 b2; have g3 := frozen_of_row w1 _ 3 _ 47 b2; have HA := hid hA; clear b1 b2 hA; simp [M.V0] at c0 c1 c2 c3 d0 d1 d2 d3)
     | (go_at_call 58; refine (HF.out _).mono ?_; rintro e w' ⟨rfl, hw⟩; obtain rfl := hw.symm))
    refine bodyPost_ret (v := .agg #[.int .i64 k, .int .i64 n, .float .f64 (M.canon b), .string ⟨t.toArray⟩]) (by simp [results, Try.results42, go_sem, d0, d1, d2, d3]) rfl ⟨rfl, ?_⟩
    exact ((((((((Touch.refl _ w).alloc _).alloc _).trans HA.out).setCell (fun h => absurd h (Nat.lt_irrefl _)) _).setCell (fun h => by simp at h; omega) _).setCell (fun h => by simp at h; omega) _).setCell (fun h => by simp at h; omega) _).setCell (fun h => by simp at h; omega) _
  · rw [M.plain, if_neg hr]
    rw [Bool.eq_false_iff.2 hr] at HR
    clear hr
    go_enter Try.func42, Try.ntmps42
    go_wp2_with (first
     | (go_at_call 28; refine (HR.out _).mono ?_; rintro e w1 ⟨rfl, hA⟩; have b1 := (HB.out _).adds hA; have b2 := (HC.out _).adds hA; have c0 := cellOf b1 0; have c1 := cellOf b1 1; have c2 := cellOf b1 2; have c3 := cellOf b1 3; have f0 := frozen_of_row w1 _ 2 _ 47 b1; have d0 := cellOf b2 0; have d1 := cellOf b2 1; have d2 := cellOf b2 2; have d3 := cellOf b2 3; have g0 := frozen_of_row w1 _ 0 _ 47 b2; have g1 := frozen_of_row w1 _ 1 _ 47 b2; have g2 := frozen_of_row w1 _ 2 _ 47 b2; have g3 := frozen_of_row w1 _ 3 _ 47 b2; have HA := hid hA; clear b1 b2 hA; simp [M.V0] at c0 c1 c2 c3 d0 d1 d2 d3))
    refine bodyPost_ret (v := .agg #[.int .i64 0, .int .i64 0, .float .f64 0, .string ⟨#[]⟩]) (by simp [results, Try.results42, go_sem, d0, d1, d2, d3]) rfl ⟨rfl, ?_⟩
    exact (((((((Touch.refl _ w).alloc _).alloc _).trans HA.out).setCell (fun h => by simp at h; omega) _).setCell (fun h => by simp at h; omega) _).setCell (fun h => by simp at h; omega) _).setCell (fun h => by simp at h; omega) _
end Go.Proofs.Ytkkmbpcmkhikkaa
