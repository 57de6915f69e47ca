/- Disks that are nil, or that no call made: Sync, Cut, Spoil, Size, Steps, Pending. -/
import Derived.Test.YtllkplanjfnnmaaDoorQ14
namespace Go.Proofs.YtllkplanjfnnmaaDoor
open Go.RowKit

set_option maxRecDepth 100000 in
set_option maxHeartbeats 400000 in
theorem sync_un (x : Value) (w : World) (hu : Unmade w x) : Calls Tryd.prog 51 #[x] w fun e w' => e = .returned (.int .i64 1) ∧ w' = w := by
  go_enter Tryd.func51, Tryd.ntmps51
  go_wp2_with (go_at_call 36; refine (show Calls Tryd.prog 36 #[x] w _ from hu).mono ?_; rintro e w' ⟨rfl, rfl⟩)
  go_ret
  exact ⟨rfl, rfl⟩
set_option maxRecDepth 100000 in
set_option maxHeartbeats 400000 in
theorem cut_un (x : Value) (n : Int) (w : World) (hu : Unmade w x) : Calls Tryd.prog 18 #[x, .int .i64 n] w fun e w' => e = .returned (.int .i64 1) ∧ w' = w := by
  go_enter Tryd.func18, Tryd.ntmps18
  go_wp2_with (go_at_call 36; refine (show Calls Tryd.prog 36 #[x] w _ from hu).mono ?_; rintro e w' ⟨rfl, rfl⟩)
  go_ret
  exact ⟨rfl, rfl⟩
set_option maxRecDepth 100000 in
set_option maxHeartbeats 400000 in
theorem size_un (x : Value) (w : World) (hu : Unmade w x) : Calls Tryd.prog 25 #[x] w fun e w' => e = .returned (.int .i64 0) ∧ w' = w := by
  go_enter Tryd.func25, Tryd.ntmps25
  go_wp2_with (go_at_call 36; refine (show Calls Tryd.prog 36 #[x] w _ from hu).mono ?_; rintro e w' ⟨rfl, rfl⟩)
  go_ret
  exact ⟨rfl, rfl⟩
set_option maxRecDepth 100000 in
set_option maxHeartbeats 400000 in
theorem steps_un (x : Value) (w : World) (hu : Unmade w x) : Calls Tryd.prog 23 #[x] w fun e w' => e = .returned (.int .i64 0) ∧ w' = w := by
  go_enter Tryd.func23, Tryd.ntmps23
  go_wp2_with (go_at_call 36; refine (show Calls Tryd.prog 36 #[x] w _ from hu).mono ?_; rintro e w' ⟨rfl, rfl⟩)
  go_ret
  exact ⟨rfl, rfl⟩
set_option maxRecDepth 100000 in
set_option maxHeartbeats 400000 in
theorem pending_un (x : Value) (w : World) (hu : Unmade w x) : Calls Tryd.prog 24 #[x] w fun e w' => e = .returned (.slice none 0 0) ∧ w' = w := by
  go_enter Tryd.func24, Tryd.ntmps24
  go_wp2_with (go_at_call 36; refine (show Calls Tryd.prog 36 #[x] w _ from hu).mono ?_; rintro e w' ⟨rfl, rfl⟩)
  go_ret
  exact ⟨rfl, rfl⟩

/-- What a law tells: true, and nothing that was there has turned. -/
def PLaw (w : World) (e : Ending) (w' : World) : Prop := e = .returned (.bool true) ∧ Adds w w'

set_option maxRecDepth 100000 in
/-- A cell that was there holds what it held. -/
theorem below_adds {w1 w2 : World} (h2 : Adds w1 w2) {a : Addr} {v : Value} (h : w1.cell? a = some v) : w2.cell? a = some v := by
  rw [World.cell?_of_block (w := w1) (h2.block a.block (World.block_lt_of_cell? w1 _ h) id)]; exact h

end Go.Proofs.YtllkplanjfnnmaaDoor
