/- Disks that are nil, or that no call made: Sync, Cut, Spoil, Size, Steps, Pending. -/
import Derived.Test.YtmmgfankbabfbaaDoorQ13
namespace Go.Proofs.YtmmgfankbabfbaaDoor
open Go.RowKit

set_option maxRecDepth 100000 in
set_option maxHeartbeats 400000 in
theorem sync_un (x : Value) (w : World) (hu : Unmade w x) : Calls Tryd.prog 41 #[x] w fun e w' => e = .returned (.int .i64 1) ∧ w' = w := by
  go_enter Tryd.func41, Tryd.ntmps41
  go_wp2_with (go_at_call 42; refine (show Calls Tryd.prog 42 #[x] w _ from hu).mono ?_; rintro e w' ⟨rfl, rfl⟩)
  go_ret
  exact ⟨rfl, rfl⟩
set_option maxRecDepth 100000 in
set_option maxHeartbeats 400000 in
theorem cut_un (x : Value) (n : Int) (w : World) (hu : Unmade w x) : Calls Tryd.prog 18 #[x, .int .i64 n] w fun e w' => e = .returned (.int .i64 1) ∧ w' = w := by
  go_enter Tryd.func18, Tryd.ntmps18
  go_wp2_with (go_at_call 42; refine (show Calls Tryd.prog 42 #[x] w _ from hu).mono ?_; rintro e w' ⟨rfl, rfl⟩)
  go_ret
  exact ⟨rfl, rfl⟩
set_option maxRecDepth 100000 in
set_option maxHeartbeats 400000 in
theorem spoil_un (x : Value) (i n b : Int) (w : World) (hu : Unmade w x) : Calls Tryd.prog 28 #[x, .int .i64 i, .int .i64 n, .int .u8 b] w fun e w' => e = .returned (.int .i64 1) ∧ w' = w := by
  go_enter Tryd.func28, Tryd.ntmps28
  go_wp2_with (go_at_call 42; refine (show Calls Tryd.prog 42 #[x] w _ from hu).mono ?_; rintro e w' ⟨rfl, rfl⟩)
  go_ret
  exact ⟨rfl, rfl⟩
set_option maxRecDepth 100000 in
set_option maxHeartbeats 400000 in
theorem size_un (x : Value) (w : World) (hu : Unmade w x) : Calls Tryd.prog 33 #[x] w fun e w' => e = .returned (.int .i64 0) ∧ w' = w := by
  go_enter Tryd.func33, Tryd.ntmps33
  go_wp2_with (go_at_call 42; refine (show Calls Tryd.prog 42 #[x] w _ from hu).mono ?_; rintro e w' ⟨rfl, rfl⟩)
  go_ret
  exact ⟨rfl, rfl⟩
set_option maxRecDepth 100000 in
set_option maxHeartbeats 400000 in
theorem steps_un (x : Value) (w : World) (hu : Unmade w x) : Calls Tryd.prog 22 #[x] w fun e w' => e = .returned (.int .i64 0) ∧ w' = w := by
  go_enter Tryd.func22, Tryd.ntmps22
  go_wp2_with (go_at_call 42; refine (show Calls Tryd.prog 42 #[x] w _ from hu).mono ?_; rintro e w' ⟨rfl, rfl⟩)
  go_ret
  exact ⟨rfl, rfl⟩
/-- What a law tells: true, and nothing that was there has turned. -/
def PLaw (w : World) (e : Ending) (w' : World) : Prop := e = .returned (.bool true) ∧ Adds w w'

set_option maxRecDepth 100000 in
/-- A cell that was there holds what it held. -/
theorem below_adds {w1 w2 : World} (h2 : Adds w1 w2) {a : Addr} {v : Value} (h : w1.cell? a = some v) : w2.cell? a = some v := by
  rw [World.cell?_of_block (w := w1) (h2.block a.block (World.block_lt_of_cell? w1 _ h) id)]; exact h

end Go.Proofs.YtmmgfankbabfbaaDoor
