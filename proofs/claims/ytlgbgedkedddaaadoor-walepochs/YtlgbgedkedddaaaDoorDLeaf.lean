/- The leaves: made, hasSector, off, step, and closed facts on types. -/
import Derived.Test.YtlgbgedkedddaaaDoorProg
import Derived.Test.YtlgbgedkedddaaaDoorDMem
import Derived.WalkKit
import Derived.WalkSpells
import Derived.WalkLawsBesides
namespace Go.Proofs.YtlgbgedkedddaaaDoor
open Go.RowKit

set_option maxRecDepth 100000 in
theorem info74 : (Tryd.prog.info? 73).map (·.size) = some 256 := by kernel_rfl
set_option maxRecDepth 100000 in
theorem info76 : (Tryd.prog.info? 75).map (·.size) = some 257 := by kernel_rfl

set_option maxRecDepth 100000 in
set_option maxHeartbeats 400000 in
theorem made_nil (w : World) : Calls Tryd.prog 36 #[.pointer none] w fun e w' => e = .returned (.bool false) ∧ w' = w := by
  go_enter Tryd.func36, Tryd.ntmps36
  go_wp2
  go_ret
  exact ⟨rfl, rfl⟩

set_option maxRecDepth 100000 in
set_option maxHeartbeats 400000 in
theorem made_any (b : Nat) (n : Int) (w : World) (c0 : w.cell? ⟨b, 0, none⟩ = some (.int .i64 n)) : Calls Tryd.prog 36 #[.pointer (some ⟨b, 0, none⟩)] w fun e w' => e = .returned (.bool (decide (0 < n))) ∧ w' = w := by
  go_enter Tryd.func36, Tryd.ntmps36
  go_wp2
  go_ret
  exact ⟨rfl, rfl⟩

set_option maxRecDepth 100000 in
set_option maxHeartbeats 400000 in
theorem hasSector_any (b : Nat) (n i : Int) (w : World) (c0 : w.cell? ⟨b, 0, none⟩ = some (.int .i64 n)) : Calls Tryd.prog 61 #[.pointer (some ⟨b, 0, none⟩), .int .i64 i] w fun e w' => e = .returned (.bool (decide (0 ≤ i) && decide (i < n))) ∧ w' = w := by
  by_cases h : 0 ≤ i
  · go_enter Tryd.func61, Tryd.ntmps61
    go_wp2
    go_ret
    exact ⟨by simp [h], rfl⟩
  · go_enter Tryd.func61, Tryd.ntmps61
    go_wp2
    go_ret
    exact ⟨by rw [decide_eq_false (by omega : ¬ 0 ≤ i)]; rfl, rfl⟩

set_option maxRecDepth 100000 in
set_option maxHeartbeats 400000 in
theorem off_any (b : Nat) (n : Int) (w : World) (c4 : w.cell? ⟨b, 4, none⟩ = some (.int .i64 n)) : Calls Tryd.prog 37 #[.pointer (some ⟨b, 0, none⟩)] w fun e w' => e = .returned (.bool (n == 0)) ∧ w' = w := by
  go_enter Tryd.func37, Tryd.ntmps37
  go_wp2
  go_ret
  exact ⟨rfl, rfl⟩

/-- How many steps are left behind one more. -/
def less (l : Int) : Int := if 0 < l then l - 1 else l

set_option maxRecDepth 100000 in
set_option maxHeartbeats 400000 in
theorem step_any (b : Nat) (x0 x1 x2 : Value) (s l : Int) (w : World) (hb : w.heap[b]? = some (.cells #[x0, x1, x2, .int .i64 s, .int .i64 l] 27 (0, 0))) (h0 : 0 ≤ s) (h1 : s < 1000000) (h2 : -1 ≤ l) (h3 : l ≤ 9223372036854775807) :
    Calls Tryd.prog 74 #[.pointer (some ⟨b, 0, none⟩)] w fun e w' => e = .returned (.tuple #[]) ∧ w' = w.setRow b #[x0, x1, x2, .int .i64 (s + 1), .int .i64 (less l)] := by
  have c3 : w.cell? ⟨b, 3, none⟩ = some (.int .i64 s) := cellOf hb 3
  have c4 : w.cell? ⟨b, 4, none⟩ = some (.int .i64 l) := cellOf hb 4
  have f3 : w.frozen? ⟨b, 3, none⟩ = false := frozen_of_row w b 3 _ 27 hb
  have f4 : w.frozen? ⟨b, 4, none⟩ = false := frozen_of_row w b 4 _ 27 hb
  have e1 : w.setCell ⟨b, 3, none⟩ (.int .i64 (s + 1)) = w.setRow b #[x0, x1, x2, .int .i64 (s + 1), .int .i64 l] := setCell_eq_setRow w b 3 _ 27 _ _ hb
  have e2 : (w.setCell ⟨b, 3, none⟩ (.int .i64 (s + 1))).setCell ⟨b, 4, none⟩ (.int .i64 (l - 1)) = w.setRow b #[x0, x1, x2, .int .i64 (s + 1), .int .i64 (l - 1)] := by
    rw [e1, setCell_eq_setRow _ b 4 _ 27 _ _ (setRow_heap w b _ _ 27 _ hb), setRow_setRow]; rfl
  have E1 : Hid (w.setCell ⟨b, 3, none⟩ (.int .i64 (s + 1)) = w.setRow b #[x0, x1, x2, .int .i64 (s + 1), .int .i64 l]) := e1
  have E2 : Hid ((w.setCell ⟨b, 3, none⟩ (.int .i64 (s + 1))).setCell ⟨b, 4, none⟩ (.int .i64 (l - 1)) = w.setRow b #[x0, x1, x2, .int .i64 (s + 1), .int .i64 (l - 1)]) := e2
  clear e1 e2 hb
  by_cases h : 0 < l
  · go_enter Tryd.func74, Tryd.ntmps74
    go_wp2
    go_end0
    exact ⟨rfl, by rw [E2.out, less, if_pos h]⟩
  · go_enter Tryd.func74, Tryd.ntmps74
    go_wp2
    go_end0
    exact ⟨rfl, by rw [E1.out, less, if_neg (by omega)]⟩

end Go.Proofs.YtlgbgedkedddaaaDoor
