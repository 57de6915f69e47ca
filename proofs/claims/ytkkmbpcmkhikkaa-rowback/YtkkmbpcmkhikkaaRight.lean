/- Whether a value may be. -/
import Derived.Test.YtkkmbpcmkhikkaaLeaf
import Derived.Test.YtkkmbpcmkhikkaaBytes
namespace Go.Proofs.Ytkkmbpcmkhikkaa
open Go.RowKit

/-- A value as the program has it. -/
def VV (v : M.V) : Value := .agg #[.int .i64 v.k, .int .i64 v.n, .float .f64 v.b, .string ⟨v.t.toArray⟩]
/-- A call that tells something, and turns nothing that was there. -/
def Tells (w : World) (x : Value) (e : Ending) (w' : World) : Prop := e = .returned x ∧ Adds w w'

theorem isEmpty_eq (t : List UInt8) : (t == []) = t.isEmpty := by cases t <;> rfl
set_option maxHeartbeats 1000000 in
theorem right_any (v : M.V) (w : World) : Calls Try.prog 28 #[VV v] w (Tells w (.bool (M.right v))) := by
  obtain ⟨k, n, b, t⟩ := v
  show Calls Try.prog 28 #[.agg #[.int .i64 k, .int .i64 n, .float .f64 b, .string ⟨t.toArray⟩]] w _
  have hz : (FloatKind.f64.format.order b 0 == some .eq) = M.zero b := rfl
  have hz2 : (FloatKind.f64.format.order b 0 != some .eq) = !M.zero b := rfl
  unfold M.right
  simp only [isEmpty_eq]
  generalize M.zero b = z at *
  by_cases k1 : k = 1
  · subst k1
    rw [if_pos rfl]
    by_cases n0 : n = 0
    · subst n0
      cases z
      · go_enter Try.func28, Try.ntmps28
        go_wp2
        go_ret
        refine ⟨rfl, by first | exact (Touch.refl _ w).alloc _ | exact ((Touch.refl _ w).alloc _).setCell (fun h => absurd h (Nat.lt_irrefl _)) _⟩
      · go_enter Try.func28, Try.ntmps28
        go_wp2
        go_ret
        refine ⟨rfl, by first | exact (Touch.refl _ w).alloc _ | exact ((Touch.refl _ w).alloc _).setCell (fun h => absurd h (Nat.lt_irrefl _)) _⟩
    · by_cases n1 : n = 1
      · subst n1
        cases z
        · go_enter Try.func28, Try.ntmps28
          go_wp2
          go_ret
          refine ⟨rfl, by first | exact (Touch.refl _ w).alloc _ | exact ((Touch.refl _ w).alloc _).setCell (fun h => absurd h (Nat.lt_irrefl _)) _⟩
        · go_enter Try.func28, Try.ntmps28
          go_wp2
          go_ret
          refine ⟨rfl, by first | exact (Touch.refl _ w).alloc _ | exact ((Touch.refl _ w).alloc _).setCell (fun h => absurd h (Nat.lt_irrefl _)) _⟩
      · have q0 : (n != 0) = true := by simpa using n0
        have q1 : (n != 1) = true := by simpa using n1
        rw [show (n == 0 || n == 1) = false by simp [n0, n1], Bool.false_and]
        clear n0 n1
        go_enter Try.func28, Try.ntmps28
        go_wp2
        go_ret
        refine ⟨rfl, by first | exact (Touch.refl _ w).alloc _ | exact ((Touch.refl _ w).alloc _).setCell (fun h => absurd h (Nat.lt_irrefl _)) _⟩
  · rw [if_neg k1]
    by_cases k2 : k = 2
    · subst k2
      rw [if_pos rfl]
      cases z
      · go_enter Try.func28, Try.ntmps28
        go_wp2
        go_ret
        refine ⟨rfl, by first | exact (Touch.refl _ w).alloc _ | exact ((Touch.refl _ w).alloc _).setCell (fun h => absurd h (Nat.lt_irrefl _)) _⟩
      · go_enter Try.func28, Try.ntmps28
        go_wp2
        go_ret
        refine ⟨rfl, by first | exact (Touch.refl _ w).alloc _ | exact ((Touch.refl _ w).alloc _).setCell (fun h => absurd h (Nat.lt_irrefl _)) _⟩
    · rw [if_neg k2]
      by_cases k4 : k = 4
      · subst k4
        rw [if_pos rfl]
        by_cases hl : t.length ≤ 64
        · have hl' : ¬ ((64 : Int) < (t.length : Int)) := by omega
          rw [decide_eq_true hl, Bool.true_and]
          clear hl
          cases z
          · go_enter Try.func28, Try.ntmps28
            go_wp2
            go_ret
            refine ⟨rfl, by first | exact (Touch.refl _ w).alloc _ | exact ((Touch.refl _ w).alloc _).setCell (fun h => absurd h (Nat.lt_irrefl _)) _⟩
          · by_cases n0 : n = 0
            · subst n0
              go_enter Try.func28, Try.ntmps28
              go_wp2
              go_ret
              refine ⟨rfl, by first | exact (Touch.refl _ w).alloc _ | exact ((Touch.refl _ w).alloc _).setCell (fun h => absurd h (Nat.lt_irrefl _)) _⟩
            · have q0 : (n == 0) = false := by simpa using n0
              rw [q0]
              go_enter Try.func28, Try.ntmps28
              go_wp2
              go_ret
              refine ⟨rfl, by first | exact (Touch.refl _ w).alloc _ | exact ((Touch.refl _ w).alloc _).setCell (fun h => absurd h (Nat.lt_irrefl _)) _⟩
        · have hl' : (64 : Int) < (t.length : Int) := by omega
          rw [decide_eq_false hl, Bool.false_and]
          clear hl
          go_enter Try.func28, Try.ntmps28
          go_wp2
          go_ret
          refine ⟨rfl, by first | exact (Touch.refl _ w).alloc _ | exact ((Touch.refl _ w).alloc _).setCell (fun h => absurd h (Nat.lt_irrefl _)) _⟩
      · rw [if_neg k4]
        by_cases k0 : k = 0
        · subst k0
          rw [if_pos rfl]
          cases z
          · go_enter Try.func28, Try.ntmps28
            go_wp2
            go_ret
            refine ⟨rfl, by first | exact (Touch.refl _ w).alloc _ | exact ((Touch.refl _ w).alloc _).setCell (fun h => absurd h (Nat.lt_irrefl _)) _⟩
          · by_cases n0 : n = 0
            · subst n0
              go_enter Try.func28, Try.ntmps28
              go_wp2
              go_ret
              refine ⟨rfl, by first | exact (Touch.refl _ w).alloc _ | exact ((Touch.refl _ w).alloc _).setCell (fun h => absurd h (Nat.lt_irrefl _)) _⟩
            · have q0 : (n == 0) = false := by simpa using n0
              rw [q0]
              go_enter Try.func28, Try.ntmps28
              go_wp2
              go_ret
              refine ⟨rfl, by first | exact (Touch.refl _ w).alloc _ | exact ((Touch.refl _ w).alloc _).setCell (fun h => absurd h (Nat.lt_irrefl _)) _⟩
        · rw [if_neg k0]
          by_cases k3 : k = 3
          · subst k3
            rw [if_pos rfl]
            by_cases n0 : n = 0
            · subst n0
              go_enter Try.func28, Try.ntmps28
              go_wp2
              go_ret
              refine ⟨rfl, by first | exact (Touch.refl _ w).alloc _ | exact ((Touch.refl _ w).alloc _).setCell (fun h => absurd h (Nat.lt_irrefl _)) _⟩
            · have q0 : (n == 0) = false := by simpa using n0
              rw [q0]
              go_enter Try.func28, Try.ntmps28
              go_wp2
              go_ret
              refine ⟨rfl, by first | exact (Touch.refl _ w).alloc _ | exact ((Touch.refl _ w).alloc _).setCell (fun h => absurd h (Nat.lt_irrefl _)) _⟩
          · rw [if_neg k3]
            go_enter Try.func28, Try.ntmps28
            go_wp2
            go_ret
            refine ⟨rfl, by first | exact (Touch.refl _ w).alloc _ | exact ((Touch.refl _ w).alloc _).setCell (fun h => absurd h (Nat.lt_irrefl _)) _⟩
end Go.Proofs.Ytkkmbpcmkhikkaa
