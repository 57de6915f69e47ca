/- The leaves: made, hasSector, off, step, and closed facts on types. -/
import Derived.Test.YtjjknckcodhnmaaProg
import Derived.Test.YtjjknckcodhnmaaMem
import Derived.WalkKit
import Derived.WalkSpells
import Derived.WalkLawsBesides
namespace Go.Proofs.Ytjjknckcodhnmaa
open Go.RowKit

theorem info5 : (Try.prog.info? 5).map (·.size) = some 1 := by kernel_rfl
theorem info74 : (Try.prog.info? 74).map (·.size) = some 256 := by kernel_rfl
theorem info76 : (Try.prog.info? 76).map (·.size) = some 257 := by kernel_rfl

/-- The cell of a struct that is known whole. -/
theorem cellOf {w : World} {p : Nat} {cs : Array Value} {t : TypeId} {fr : Nat × Nat} (h : w.heap[p]? = some (.cells cs t fr)) (j : Nat) : w.cell? ⟨p, j, none⟩ = cs[j]? := cell_of_row w p j cs t fr h

set_option maxHeartbeats 400000 in
theorem made_nil (w : World) : Calls Try.prog 29 #[.pointer none] w fun e w' => e = .returned (.bool false) ∧ w' = w := by
  go_enter Try.func29, Try.ntmps29
  go_wp2
  go_ret
  exact ⟨rfl, rfl⟩

set_option maxHeartbeats 400000 in
theorem made_any (b : Nat) (n : Int) (w : World) (c0 : w.cell? ⟨b, 0, none⟩ = some (.int .i64 n)) : Calls Try.prog 29 #[.pointer (some ⟨b, 0, none⟩)] w fun e w' => e = .returned (.bool (decide (0 < n))) ∧ w' = w := by
  go_enter Try.func29, Try.ntmps29
  go_wp2
  go_ret
  exact ⟨rfl, rfl⟩

set_option maxHeartbeats 400000 in
theorem hasSector_any (b : Nat) (n i : Int) (w : World) (c0 : w.cell? ⟨b, 0, none⟩ = some (.int .i64 n)) : Calls Try.prog 30 #[.pointer (some ⟨b, 0, none⟩), .int .i64 i] w fun e w' => e = .returned (.bool (decide (0 ≤ i) && decide (i < n))) ∧ w' = w := by
  by_cases h : 0 ≤ i
  · go_enter Try.func30, Try.ntmps30
    go_wp2
    go_ret
    exact ⟨by simp [h], rfl⟩
  · go_enter Try.func30, Try.ntmps30
    go_wp2
    go_ret
    exact ⟨by rw [decide_eq_false (by omega : ¬ 0 ≤ i)]; rfl, rfl⟩

set_option maxHeartbeats 400000 in
theorem off_any (b : Nat) (n : Int) (w : World) (c4 : w.cell? ⟨b, 4, none⟩ = some (.int .i64 n)) : Calls Try.prog 31 #[.pointer (some ⟨b, 0, none⟩)] w fun e w' => e = .returned (.bool (n == 0)) ∧ w' = w := by
  go_enter Try.func31, Try.ntmps31
  go_wp2
  go_ret
  exact ⟨rfl, rfl⟩

/-- How many steps are left behind one more. -/
def less (l : Int) : Int := if 0 < l then l - 1 else l

set_option maxHeartbeats 400000 in
theorem step_any (b : Nat) (x0 x1 x2 : Value) (s l : Int) (w : World) (hb : w.heap[b]? = some (.cells #[x0, x1, x2, .int .i64 s, .int .i64 l] 53 (0, 0))) (h0 : 0 ≤ s) (h1 : s < 1000000) (h2 : -1 ≤ l) (h3 : l ≤ 9223372036854775807) :
    Calls Try.prog 32 #[.pointer (some ⟨b, 0, none⟩)] w fun e w' => e = .returned (.tuple #[]) ∧ w' = w.setRow b #[x0, x1, x2, .int .i64 (s + 1), .int .i64 (less l)] := by
  have c3 : w.cell? ⟨b, 3, none⟩ = some (.int .i64 s) := cellOf hb 3
  have c4 : w.cell? ⟨b, 4, none⟩ = some (.int .i64 l) := cellOf hb 4
  have f3 : w.frozen? ⟨b, 3, none⟩ = false := frozen_of_row w b 3 _ 53 hb
  have f4 : w.frozen? ⟨b, 4, none⟩ = false := frozen_of_row w b 4 _ 53 hb
  have e1 : w.setCell ⟨b, 3, none⟩ (.int .i64 (s + 1)) = w.setRow b #[x0, x1, x2, .int .i64 (s + 1), .int .i64 l] := setCell_eq_setRow w b 3 _ 53 _ _ hb
  have e2 : (w.setCell ⟨b, 3, none⟩ (.int .i64 (s + 1))).setCell ⟨b, 4, none⟩ (.int .i64 (l - 1)) = w.setRow b #[x0, x1, x2, .int .i64 (s + 1), .int .i64 (l - 1)] := by
    rw [e1, setCell_eq_setRow _ b 4 _ 53 _ _ (setRow_heap w b _ _ 53 _ hb), setRow_setRow]; rfl
  have E1 : Hid (w.setCell ⟨b, 3, none⟩ (.int .i64 (s + 1)) = w.setRow b #[x0, x1, x2, .int .i64 (s + 1), .int .i64 l]) := e1
  have E2 : Hid ((w.setCell ⟨b, 3, none⟩ (.int .i64 (s + 1))).setCell ⟨b, 4, none⟩ (.int .i64 (l - 1)) = w.setRow b #[x0, x1, x2, .int .i64 (s + 1), .int .i64 (l - 1)]) := e2
  clear e1 e2 hb
  by_cases h : 0 < l
  · go_enter Try.func32, Try.ntmps32
    go_wp2
    go_end0
    exact ⟨rfl, by rw [E2.out, less, if_pos h]⟩
  · go_enter Try.func32, Try.ntmps32
    go_wp2
    go_end0
    exact ⟨rfl, by rw [E1.out, less, if_neg (by omega)]⟩

end Go.Proofs.Ytjjknckcodhnmaa
