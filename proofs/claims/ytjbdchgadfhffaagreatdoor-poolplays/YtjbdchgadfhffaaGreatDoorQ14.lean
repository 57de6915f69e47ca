/- Disks that are nil, or that no call made: Sync, Cut, Spoil, Size, Steps, Pending. -/
import Derived.Test.YtjbdchgadfhffaaGreatDoorQ12
namespace Go.Proofs.YtjbdchgadfhffaaGreatDoor
open Go.RowKit

set_option maxRecDepth 100000 in
set_option maxHeartbeats 400000 in
theorem sync_un (x : Value) (w : World) (hu : Unmade w x) : Calls Tryz.prog 78 #[x] w fun e w' => e = .returned (.int .i64 1) ∧ w' = w := by
  go_enter Tryz.func78, Tryz.ntmps78
  go_wp2_with (go_at_call 51; refine (show Calls Tryz.prog 51 #[x] w _ from hu).mono ?_; rintro e w' ⟨rfl, rfl⟩)
  go_ret
  exact ⟨rfl, rfl⟩
set_option maxRecDepth 100000 in
set_option maxHeartbeats 400000 in
theorem cut_un (x : Value) (n : Int) (w : World) (hu : Unmade w x) : Calls Tryz.prog 29 #[x, .int .i64 n] w fun e w' => e = .returned (.int .i64 1) ∧ w' = w := by
  go_enter Tryz.func29, Tryz.ntmps29
  go_wp2_with (go_at_call 51; refine (show Calls Tryz.prog 51 #[x] w _ from hu).mono ?_; rintro e w' ⟨rfl, rfl⟩)
  go_ret
  exact ⟨rfl, rfl⟩
set_option maxRecDepth 100000 in
set_option maxHeartbeats 400000 in
theorem spoil_un (x : Value) (i n b : Int) (w : World) (hu : Unmade w x) : Calls Tryz.prog 33 #[x, .int .i64 i, .int .i64 n, .int .u8 b] w fun e w' => e = .returned (.int .i64 1) ∧ w' = w := by
  go_enter Tryz.func33, Tryz.ntmps33
  go_wp2_with (go_at_call 51; refine (show Calls Tryz.prog 51 #[x] w _ from hu).mono ?_; rintro e w' ⟨rfl, rfl⟩)
  go_ret
  exact ⟨rfl, rfl⟩
set_option maxRecDepth 100000 in
set_option maxHeartbeats 400000 in
theorem size_un (x : Value) (w : World) (hu : Unmade w x) : Calls Tryz.prog 54 #[x] w fun e w' => e = .returned (.int .i64 0) ∧ w' = w := by
  go_enter Tryz.func54, Tryz.ntmps54
  go_wp2_with (go_at_call 51; refine (show Calls Tryz.prog 51 #[x] w _ from hu).mono ?_; rintro e w' ⟨rfl, rfl⟩)
  go_ret
  exact ⟨rfl, rfl⟩
set_option maxRecDepth 100000 in
set_option maxHeartbeats 400000 in
theorem steps_un (x : Value) (w : World) (hu : Unmade w x) : Calls Tryz.prog 17 #[x] w fun e w' => e = .returned (.int .i64 0) ∧ w' = w := by
  go_enter Tryz.func17, Tryz.ntmps17
  go_wp2_with (go_at_call 51; refine (show Calls Tryz.prog 51 #[x] w _ from hu).mono ?_; rintro e w' ⟨rfl, rfl⟩)
  go_ret
  exact ⟨rfl, rfl⟩
/-- What a law tells: true, and nothing that was there has turned. -/
def PLaw (w : World) (e : Ending) (w' : World) : Prop := e = .returned (.bool true) ∧ Adds w w'

end Go.Proofs.YtjbdchgadfhffaaGreatDoor
