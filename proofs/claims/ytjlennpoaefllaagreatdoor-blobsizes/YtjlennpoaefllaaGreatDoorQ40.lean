/- Texts put together: GWorks, GNobody, KNobody. -/
import Derived.Test.YtjlennpoaefllaaGreatDoorQ38
import Derived.Test.YtjlennpoaefllaaGreatDoorQ39
import Derived.WalkMore
import Derived.OwnWalk
/- A space of one map: its calls; the chapter's example. -/
namespace Go.Proofs.YtjlennpoaefllaaGreatDoor
open Go.RowKit

section
variable {w0 w : World} {X : List (Nat × Obj)} {p dp c mo n kk sp : Nat} {x ws : List UInt8} {fr dt : Bool} {D : dSt}
end
/-- The cells of the example. -/
def wx : Nat → List UInt8
  | 1 => [1]
  | 2 => [3]
  | 3 => [7]
  | _ => [15]
end Go.Proofs.YtjlennpoaefllaaGreatDoor

/- Spaces that are none. -/
namespace Go.Proofs.YtjlennpoaefllaaGreatDoor
open Go.RowKit

set_option maxRecDepth 100000 in
theorem zeroSpace (w : World) : (Instr.build 58 #[]).run Tryz.prog w = .ok (.agg #[.pointer none]) w := by kernel_rfl
/-- A space that has no pool. -/
def Unsp (w : World) (x : Value) : Prop := Calls Tryz.prog 15 #[x] w (Tells (.pointer none) w)
set_option maxRecDepth 100000 in
set_option maxHeartbeats 400000 in
theorem unsp_nil (w : World) : Unsp w (.pointer none) := by
  unfold Unsp
  go_enter Tryz.func15, Tryz.ntmps15
  go_wp2_with fail
  go_ret
  exact ⟨rfl, rfl⟩
set_option maxRecDepth 100000 in
set_option maxHeartbeats 400000 in
theorem unsp_zero (w : World) (sp : Nat) (h : w.cell? ⟨sp, 0, none⟩ = some (.pointer none)) : Unsp w (.pointer (some ⟨sp, 0, none⟩)) := by
  unfold Unsp
  go_enter Tryz.func15, Tryz.ntmps15
  go_wp2_with fail
  go_ret
  exact ⟨rfl, rfl⟩
set_option maxRecDepth 100000 in
set_option maxHeartbeats 400000 in
theorem smaps_un (x : Value) (w : World) (h : Unsp w x) : Calls Tryz.prog 36 #[x] w (Tells (.int .i64 0) w) := by
  have H1 := hid (show Calls Tryz.prog 15 #[x] w (Tells (.pointer none) w) from h)
  have H2 := hid (count_un (.pointer none) w (unpool_nil w))
  have H3 := hid (show Calls Tryz.prog 77 #[.int .i64 0, .int .i64 1920] w (Tells (.int .i64 0) w) from shares_map w 0 (by decide))
  clear h
  go_enter Tryz.func36, Tryz.ntmps36
  go_wp2_with (first
    | (go_at_call 15; refine H1.out.mono ?_; rintro e w1 ⟨rfl, hw⟩; rw [hw]; clear hw)
    | (go_at_call 74; refine H2.out.mono ?_; rintro e w1 ⟨rfl, hw⟩; rw [hw]; clear hw)
    | (go_at_call 77; refine H3.out.mono ?_; rintro e w1 ⟨rfl, hw⟩; rw [hw]; clear hw))
  go_ret
  exact ⟨rfl, rfl⟩
end Go.Proofs.YtjlennpoaefllaaGreatDoor

/- How many pages; blobs without a space. -/
namespace Go.Proofs.YtjlennpoaefllaaGreatDoor
open Go.RowKit

set_option maxRecDepth 100000 in
set_option maxHeartbeats 400000 in
theorem sizes13 (z : Int) (hz : z ≤ 9223372036854775807) (w : World) (hT : Tab w) : Calls Tryz.prog 5 #[.int .i64 z] w (Adding (.bool true) w) := by
  obtain ⟨r, h1, h2⟩ := pages_two z hz
  have H1 := hid (h1 w)
  have H2 := hid (h2 w)
  have HW := hid (works13 w hT)
  clear h1 h2 hT hz
  go_enter Tryz.func5, Tryz.ntmps5
  go_wp2_with (first
    | (go_at_call 22; refine H1.out.mono ?_; rintro e _ ⟨rfl, hw⟩; rw [hw]; clear hw)
    | (go_at_call 23; refine H2.out.mono ?_; rintro e _ ⟨rfl, hw⟩; rw [hw]; clear hw)
    | (go_at_call 18; refine HW.out.mono ?_; rintro e w1 ⟨rfl, hA⟩; have HA := hid hA; clear hA))
  go_ret
  exact ⟨rfl, HA.out⟩
set_option maxRecDepth 100000 in
set_option maxHeartbeats 400000 in
theorem xmade_un (x : Value) (w : World) (h : Unsp w x) : Calls Tryz.prog 66 #[x] w (Tells (.bool false) w) := by
  have H1 := hid (smaps_un x w h)
  clear h
  go_enter Tryz.func66, Tryz.ntmps66
  go_wp2_with (go_at_call 36; refine H1.out.mono ?_; rintro e w1 ⟨rfl, hw⟩; rw [hw]; clear hw)
  go_ret
  exact ⟨rfl, rfl⟩
set_option maxRecDepth 100000 in
set_option maxHeartbeats 400000 in
theorem xput_un (x : Value) (w : World) (h : Unsp w x) (a : Option Addr) (n cap : Nat) : Calls Tryz.prog 24 #[x, .slice a n cap] w (Tells (.tuple #[.int .i64 0, .int .i64 1]) w) := by
  have H1 := hid (xmade_un x w h)
  clear h
  go_enter Tryz.func24, Tryz.ntmps24
  go_wp2_with (go_at_call 66; refine H1.out.mono ?_; rintro e w1 ⟨rfl, hw⟩; rw [hw]; clear hw)
  go_ret2
  exact ⟨rfl, rfl⟩
set_option maxRecDepth 100000 in
set_option maxHeartbeats 400000 in
theorem xread_un (x : Value) (w : World) (h : Unsp w x) (no : Int) : Calls Tryz.prog 69 #[x, .int .i64 no] w (Tells (.tuple #[.slice none 0 0, .slice none 0 0, .int .i64 1]) w) := by
  have H1 := hid (xmade_un x w h)
  clear h
  go_enter Tryz.func69, Tryz.ntmps69
  go_wp2_with fail
  go_step3
  go_wp2_with (go_at_call 66; refine H1.out.mono ?_; rintro e w1 ⟨rfl, hw⟩; rw [hw]; clear hw)
  (try rw [Exit.noGoto_ret])
  go_ret3
  exact ⟨rfl, rfl⟩
set_option maxRecDepth 100000 in
set_option maxHeartbeats 400000 in
theorem xget_un (x : Value) (w : World) (h : Unsp w x) (no : Int) : Calls Tryz.prog 25 #[x, .int .i64 no] w (Tells (.tuple #[.slice none 0 0, .int .i64 1]) w) := by
  have H1 := hid (xread_un x w h no)
  clear h
  go_enter Tryz.func25, Tryz.ntmps25
  go_wp2_with (go_at_call 69; refine H1.out.mono ?_; rintro e w1 ⟨rfl, hw⟩; rw [hw]; clear hw)
  go_ret2
  exact ⟨rfl, rfl⟩
set_option maxRecDepth 100000 in
set_option maxHeartbeats 400000 in
theorem xchain_un (x : Value) (w : World) (h : Unsp w x) (no : Int) : Calls Tryz.prog 26 #[x, .int .i64 no] w (Tells (.tuple #[.slice none 0 0, .int .i64 1]) w) := by
  have H1 := hid (xread_un x w h no)
  clear h
  go_enter Tryz.func26, Tryz.ntmps26
  go_wp2_with (go_at_call 69; refine H1.out.mono ?_; rintro e w1 ⟨rfl, hw⟩; rw [hw]; clear hw)
  go_ret2
  exact ⟨rfl, rfl⟩
set_option maxRecDepth 100000 in
set_option maxHeartbeats 400000 in
theorem xfree_un (x : Value) (w : World) (h : Unsp w x) (no : Int) : Calls Tryz.prog 27 #[x, .int .i64 no] w (Tells (.int .i64 1) w) := by
  have H1 := hid (xchain_un x w h no)
  clear h
  go_enter Tryz.func27, Tryz.ntmps27
  go_wp2_with (go_at_call 26; refine H1.out.mono ?_; rintro e w1 ⟨rfl, hw⟩; rw [hw]; clear hw)
  go_ret
  exact ⟨rfl, rfl⟩
set_option maxRecDepth 100000 in
set_option maxHeartbeats 4000000 in
theorem nobody13 (no : Int) (a : Option Addr) (n cap : Nat) (w : World) (hT : Tab w) : Calls Tryz.prog 6 #[.int .i64 no, .slice a n cap] w (Adding (.bool true) w) := by
  have HW := hid (fun w' (hA : Adds w w') => works13 w' (hT.adds hA))
  have hzs := zeroSpace
  clear hT
  go_enter Tryz.func6, Tryz.ntmps6
  go_wp2_with fail
  obtain ⟨w3, hw3⟩ : ∃ w3 : World, w3 = (w.alloc (.cells #[.pointer none] 58)).alloc (.cells #[.pointer none, .pointer (some ⟨w.heap.size, 0, none⟩)] 37) := ⟨_, rfl⟩
  rw [← hw3]
  have hA3 : Adds w w3 := by rw [hw3]; exact ((Touch.refl _ w).alloc _).alloc _
  have z0 : w3.cell? ⟨w.heap.size, 0, none⟩ = some (.pointer none) := by rw [hw3]; simp [go_sem]
  have s0 : w3.cell? ⟨w.heap.size + 1, 0, none⟩ = some (.pointer none) := by rw [hw3]; simp [go_sem]
  have s1 : w3.cell? ⟨w.heap.size + 1, 1, none⟩ = some (.pointer (some ⟨w.heap.size, 0, none⟩)) := by rw [hw3]; simp [go_sem]
  clear hw3
  have HV0 := hid (unsp_nil w3)
  have HV1 := hid (unsp_zero w3 w.heap.size z0)
  have HA3 := hid hA3
  clear hA3 z0
  go_loopw [17] (fun t wr => ∃ k : Nat, k ≤ 2 ∧ t = .int .i64 k ∧ wr = w3) (fun t _ => 2 - (intOf t).toNat)
  case atStart => exact ⟨0, by omega, rfl, rfl⟩
  case round =>
    obtain ⟨k, hk, rfl, rfl⟩ := hrel
    obtain rfl | rfl | rfl : k = 0 ∨ k = 1 ∨ k = 2 := by omega
    · go_wp2_with (first
        | (go_at_call 24; refine (xput_un _ wr HV0.out a n cap).mono ?_; rintro e _ ⟨rfl, hw⟩; rw [hw]; clear hw)
        | (go_at_call 25; refine (xget_un _ wr HV0.out no).mono ?_; rintro e _ ⟨rfl, hw⟩; rw [hw]; clear hw)
        | (go_at_call 26; refine (xchain_un _ wr HV0.out no).mono ?_; rintro e _ ⟨rfl, hw⟩; rw [hw]; clear hw)
        | (go_at_call 27; refine (xfree_un _ wr HV0.out no).mono ?_; rintro e _ ⟨rfl, hw⟩; rw [hw]; clear hw))
      go_roundw
      case rel => exact ⟨1, by omega, rfl, by first | rfl | trivial⟩
      case measure => simp [intOf]
    · go_wp2_with (first
        | (go_at_call 24; refine (xput_un _ wr HV1.out a n cap).mono ?_; rintro e _ ⟨rfl, hw⟩; rw [hw]; clear hw)
        | (go_at_call 25; refine (xget_un _ wr HV1.out no).mono ?_; rintro e _ ⟨rfl, hw⟩; rw [hw]; clear hw)
        | (go_at_call 26; refine (xchain_un _ wr HV1.out no).mono ?_; rintro e _ ⟨rfl, hw⟩; rw [hw]; clear hw)
        | (go_at_call 27; refine (xfree_un _ wr HV1.out no).mono ?_; rintro e _ ⟨rfl, hw⟩; rw [hw]; clear hw))
      go_roundw
      case rel => exact ⟨2, by omega, rfl, by first | rfl | trivial⟩
      case measure => simp [intOf]
    · go_wp2_with (go_at_call 18; refine (HW.out wr HA3.out).mono ?_; rintro e w8 ⟨rfl, hA8⟩; have HA8 := hid (HA3.out.trans hA8); clear hA8)
      go_ret
      exact ⟨rfl, HA8.out⟩
end Go.Proofs.YtjlennpoaefllaaGreatDoor
