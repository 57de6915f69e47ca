/- Logs that are none. -/
import Derived.Test.YtlgbgedkedddaaaDoorQ37
namespace Go.Proofs.YtlgbgedkedddaaaDoor
open Go.RowKit
/-- No groups. -/
def PNone (w : World) (e : Ending) (w' : World) : Prop := ∃ a c, e = .returned (.slice a 0 c) ∧ Adds w w'
set_option maxRecDepth 100000 in
set_option maxHeartbeats 1000000 in
theorem groups_zero (l : Nat) (w : World) (c5 : w.cell? ⟨l, 5, none⟩ = some (.slice none 0 0)) : Calls Tryd.prog 12 #[Ptr l] w (PNone w) := by
  obtain ⟨i3, hi3, hz0, hz1, hz2⟩ := infoBB
  have HKE := hid (show ∀ w', w.grownBy w' none → w'.cell? ⟨l, 5, none⟩ = some (.slice none 0 0) ∧ Adds w w' from fun w' hg =>
    have hA : Adds w w' := Touch.grown (Touch.refl _ w) hg (fun k hk _ => by cases hk)
    ⟨below_adds hA c5, hA⟩)
  go_enter Tryd.func12, Tryd.ntmps12
  go_wp2_with (first
    | (at_make; refine wpList_make_own _ rfl _ _ 41 rfl 0 33 i3 (.slice none 0 0) 1 Tryd.underlying41 hi3 hz0 hz1 .i64 .i64 _ 0 rfl rfl rfl (by omega) (by unfold maxLen; omega) (Nat.zero_le _) ?_; intro w2 hown2 hg2; obtain ⟨c5', hA2⟩ := HKE.out w2 hg2
       have H2 := hid hA2; clear hown2 hA2))
  go_loopw [3, 19] (fun v i wr => v = .slice (some ⟨w.heap.size, 0, none⟩) 0 0 ∧ i = .int .i64 0 ∧ wr = w2) (fun _ _ _ => 0)
  case atStart => exact ⟨rfl, rfl, rfl⟩
  case round =>
    obtain ⟨rfl, rfl, hw⟩ := hrel
    rw [hw]
    go_wp2_with fail
    go_ret
    exact ⟨_, _, rfl, H2.out⟩
/-- A log that no call made. -/
structure Zero (w : World) (l : Nat) : Prop where
  box : w.heap[l]? = some (.cells #[.pointer none, .int .i64 0, .int .i64 0, .int .i64 0, .bool false, .slice none 0 0, .int .i64 0, .int .i64 0, .slice none 0 0] 35 (0, 0))
theorem Zero.adds {w w' : World} {l : Nat} (h : Zero w l) (hA : Adds w w') : Zero w' l := ⟨hA.at' h.box id⟩
set_option maxRecDepth 100000 in
theorem zeroDisk (w : World) : (Instr.build 27 #[]).run Tryd.prog w = .ok (.agg #[.int .i64 0, .map none, .slice none 0 0, .int .i64 0, .int .i64 0]) w := by kernel_rfl
set_option maxRecDepth 100000 in
theorem zeroLog (w : World) : (Instr.build 35 #[]).run Tryd.prog w = .ok (.agg #[.pointer none, .int .i64 0, .int .i64 0, .int .i64 0, .bool false, .slice none 0 0, .int .i64 0, .int .i64 0, .slice none 0 0]) w := by kernel_rfl
set_option maxRecDepth 100000 in
set_option maxHeartbeats 2000000 in
theorem nobody8 (fr ct ep : Int) (a : Option Addr) (n cap : Nat) (w : World) (hT : Tab w) : Calls Tryd.prog 3 #[.int .i64 fr, .int .i64 ct, .int .i64 ep, .slice a n cap] w (Adding (.bool true) w) := by
  have HW := hid (fun w' (hA : Adds w w') => works8 w' (hT.adds hA))
  have hzd := zeroDisk
  have hzl := zeroLog
  clear hT
  go_enter Tryd.func3, Tryd.ntmps3
  go_wp2_with fail
  obtain ⟨w3, hw3⟩ : ∃ w3 : World, w3 = (w.alloc (.cells #[.int .i64 0, .map none, .slice none 0 0, .int .i64 0, .int .i64 0] 27)).alloc (.cells #[.pointer none, Ptr w.heap.size] 23) := ⟨_, rfl⟩
  rw [← hw3]
  have hA3 : Adds w w3 := by rw [hw3]; exact ((Touch.refl _ w).alloc _).alloc _
  have z0 : w3.cell? ⟨w.heap.size, 0, none⟩ = some (.int .i64 0) := by rw [hw3]; simp [go_sem]
  have s0 : w3.cell? ⟨w.heap.size + 1, 0, none⟩ = some (.pointer none) := by rw [hw3]; simp [go_sem]
  have s1 : w3.cell? ⟨w.heap.size + 1, 1, none⟩ = some (Ptr w.heap.size) := by rw [hw3]; simp [go_sem]
  clear hw3
  have HO0 := hid (open_un (.pointer none) fr ct ep w3 (unmade_nil w3))
  have HO1 := hid (open_un (Ptr w.heap.size) fr ct ep w3 (unmade_zero z0))
  have HA3 := hid hA3
  clear hA3 z0
  go_loopw [19] (fun t wr => ∃ k : Nat, k ≤ 2 ∧ t = .int .i64 k ∧ wr = w3) (fun t _ => 2 - (intOf t).toNat)
  case atStart => exact ⟨0, by omega, rfl, rfl⟩
  case round =>
    obtain ⟨k, hk, rfl, hw⟩ := hrel
    rw [hw]
    clear hw
    obtain rfl | rfl | rfl : k = 0 ∨ k = 1 ∨ k = 2 := by omega
    · go_wp2_with (first | (go_at_call 7; refine HO0.out.mono ?_; rintro e _ ⟨rfl, hw⟩; rw [hw]; clear hw))
      go_roundw
      case rel => exact ⟨1, by omega, rfl, by first | rfl | trivial⟩
      case measure => simp [intOf]
    · go_wp2_with (first | (go_at_call 7; refine HO1.out.mono ?_; rintro e _ ⟨rfl, hw⟩; rw [hw]; clear hw))
      go_roundw
      case rel => exact ⟨2, by omega, rfl, by first | rfl | trivial⟩
      case measure => simp [intOf]
    · go_wp2_with fail
      obtain ⟨w4, hw4⟩ : ∃ w4 : World, w4 = (w3.alloc (.cells #[.pointer none, .int .i64 0, .int .i64 0, .int .i64 0, .bool false, .slice none 0 0, .int .i64 0, .int .i64 0, .slice none 0 0] 35)).alloc (.cells #[.pointer none, Ptr w3.heap.size] 29) := ⟨_, rfl⟩
      rw [← hw4]
      have HA4 : Hid (Adds w w4) := by rw [hw4]; exact (HA3.out.alloc _).alloc _
      have HZ : Hid (Zero w4 w3.heap.size) := ⟨by rw [hw4]; exact heap_alloc2_old w3 _ _⟩
      have q0 : w4.cell? ⟨w3.heap.size + 1, 0, none⟩ = some (.pointer none) := by rw [hw4]; simp [go_sem]
      have q1 : w4.cell? ⟨w3.heap.size + 1, 1, none⟩ = some (Ptr w3.heap.size) := by rw [hw4]; simp [go_sem]
      clear hw4 s0 s1
      go_loopw [42] (fun t wr => ∃ k : Nat, k ≤ 2 ∧ t = .int .i64 k ∧ Hid (Adds w4 wr)) (fun t _ => 2 - (intOf t).toNat)
      case atStart => exact ⟨0, by omega, rfl, Touch.refl _ _⟩
      case round =>
        obtain ⟨k, hk, rfl, HI⟩ := hrel
        have r0 := below_adds HI.out q0
        have r1 := below_adds HI.out q1
        have HZr := hid (HZ.out.adds HI.out)
        clear q0 q1
        obtain rfl | rfl | rfl : k = 0 ∨ k = 1 ∨ k = 2 := by omega
        · go_wp2_with (first
            | (go_at_call 8; refine (begin_nil ep wr).mono ?_; rintro e _ ⟨rfl, hw⟩; rw [hw]; clear hw)
            | (go_at_call 9; refine (lappend_nil a n cap wr).mono ?_; rintro e _ ⟨rfl, hw⟩; rw [hw]; clear hw)
            | (go_at_call 10; refine (commit_nil wr).mono ?_; rintro e _ ⟨rfl, hw⟩; rw [hw]; clear hw)
            | (go_at_call 11; refine (drop_nil wr).mono ?_; rintro e _ ⟨rfl, hw⟩; rw [hw]; clear hw)
            | (go_at_call 12; refine (groups_nil wr).mono ?_; rintro e _ ⟨rfl, hw⟩; rw [hw]; clear hw)
            | (go_at_call 13; refine (waiting_nil wr).mono ?_; rintro e _ ⟨rfl, hw⟩; rw [hw]; clear hw)
            | (go_at_call 14; refine (used_nil wr).mono ?_; rintro e _ ⟨rfl, hw⟩; rw [hw]; clear hw)
            | (go_at_call 15; refine (room_nil wr).mono ?_; rintro e _ ⟨rfl, hw⟩; rw [hw]; clear hw))
          go_roundw
          case rel => exact ⟨_, _, _, _, _, _, _, _, _, _, _, _, _, _, _, _, _, _, _, _, _, _, _, _, _, _, _, _, _, _, _, _, _, _, _, _, _, _, _, _, _, _, _, _, _, _, _, _, ⟨1, by omega, rfl, HI.out⟩, rfl⟩
          case measure => simp [intOf]
        · go_wp2_with (first
            | (go_at_call 8; refine (begin_zero w3.heap.size ep wr (cellOf HZr.out.box 0)).mono ?_; rintro e _ ⟨rfl, hw⟩; rw [hw]; clear hw)
            | (go_at_call 9; refine (lappend_zero w3.heap.size a n cap wr (cellOf HZr.out.box 0)).mono ?_; rintro e _ ⟨rfl, hw⟩; rw [hw]; clear hw)
            | (go_at_call 10; refine (commit_zero w3.heap.size wr (cellOf HZr.out.box 0)).mono ?_; rintro e _ ⟨rfl, hw⟩; rw [hw]; clear hw)
            | (go_at_call 11; refine (drop_none w3.heap.size wr (cellOf HZr.out.box 7)).mono ?_; rintro e _ ⟨rfl, hw⟩; rw [hw]; clear hw)
            | (go_at_call 12; refine (groups_zero w3.heap.size wr (cellOf HZr.out.box 5)).mono ?_; rintro e w5 ⟨ga, gc, rfl, hA5⟩; have HZ5 := hid (HZr.out.adds hA5); have HA5 := hid (HI.out.trans hA5); clear hA5)
            | (go_at_call 13; refine (waiting_any w3.heap.size 0 w5 (cellOf HZ5.out.box 7)).mono ?_; rintro e _ ⟨rfl, hw⟩; rw [hw]; clear hw)
            | (go_at_call 14; refine (used_any w3.heap.size 0 w5 (cellOf HZ5.out.box 6)).mono ?_; rintro e _ ⟨rfl, hw⟩; rw [hw]; clear hw)
            | (go_at_call 15; refine (show Calls Tryd.prog 15 #[Ptr w3.heap.size] w5 (Adding (.int .i64 0) w5) from lroom_any w3.heap.size 0 0 w5 (cellOf HZ5.out.box 2) (cellOf HZ5.out.box 6) (by decide) (by decide) (by decide)).mono ?_; rintro e w6 ⟨rfl, hA6⟩; have HA6 := hid (HA5.out.trans hA6); clear hA6))
          go_roundw
          case rel => exact ⟨_, _, _, _, _, _, _, _, _, _, _, _, _, _, _, _, _, _, _, _, _, _, _, _, _, _, _, _, _, _, _, _, _, _, _, _, _, _, _, _, _, _, _, _, _, _, _, _, ⟨2, by omega, rfl, HA6.out⟩, rfl⟩
          case measure => simp [intOf]
        · go_wp2_with (first | (go_at_call 16; refine (HW.out wr (HA4.out.trans HI.out)).mono ?_; rintro e w9 ⟨rfl, hA9⟩))
          go_ret
          exact ⟨rfl, (HA4.out.trans HI.out).trans hA9⟩
end Go.Proofs.YtlgbgedkedddaaaDoor
