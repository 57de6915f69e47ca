/- Disks that are nil, or that no call made: Sync, Cut, Spoil, Size, Steps, Pending. -/
import Derived.Test.YtjjknckcodhnmaaWorks
namespace Go.Proofs.Ytjjknckcodhnmaa
open Go.RowKit

set_option maxHeartbeats 400000 in
theorem sync_un (x : Value) (w : World) (hu : Unmade w x) : Calls Try.prog 14 #[x] w fun e w' => e = .returned (.int .i64 1) ∧ w' = w := by
  go_enter Try.func14, Try.ntmps14
  go_wp2_with (go_at_call 29; refine (show Calls Try.prog 29 #[x] w _ from hu).mono ?_; rintro e w' ⟨rfl, rfl⟩)
  go_ret
  exact ⟨rfl, rfl⟩
set_option maxHeartbeats 400000 in
theorem cut_un (x : Value) (n : Int) (w : World) (hu : Unmade w x) : Calls Try.prog 16 #[x, .int .i64 n] w fun e w' => e = .returned (.int .i64 1) ∧ w' = w := by
  go_enter Try.func16, Try.ntmps16
  go_wp2_with (go_at_call 29; refine (show Calls Try.prog 29 #[x] w _ from hu).mono ?_; rintro e w' ⟨rfl, rfl⟩)
  go_ret
  exact ⟨rfl, rfl⟩
set_option maxHeartbeats 400000 in
theorem spoil_un (x : Value) (i n b : Int) (w : World) (hu : Unmade w x) : Calls Try.prog 21 #[x, .int .i64 i, .int .i64 n, .int .u8 b] w fun e w' => e = .returned (.int .i64 1) ∧ w' = w := by
  go_enter Try.func21, Try.ntmps21
  go_wp2_with (go_at_call 29; refine (show Calls Try.prog 29 #[x] w _ from hu).mono ?_; rintro e w' ⟨rfl, rfl⟩)
  go_ret
  exact ⟨rfl, rfl⟩
set_option maxHeartbeats 400000 in
theorem size_un (x : Value) (w : World) (hu : Unmade w x) : Calls Try.prog 24 #[x] w fun e w' => e = .returned (.int .i64 0) ∧ w' = w := by
  go_enter Try.func24, Try.ntmps24
  go_wp2_with (go_at_call 29; refine (show Calls Try.prog 29 #[x] w _ from hu).mono ?_; rintro e w' ⟨rfl, rfl⟩)
  go_ret
  exact ⟨rfl, rfl⟩
set_option maxHeartbeats 400000 in
theorem steps_un (x : Value) (w : World) (hu : Unmade w x) : Calls Try.prog 25 #[x] w fun e w' => e = .returned (.int .i64 0) ∧ w' = w := by
  go_enter Try.func25, Try.ntmps25
  go_wp2_with (go_at_call 29; refine (show Calls Try.prog 29 #[x] w _ from hu).mono ?_; rintro e w' ⟨rfl, rfl⟩)
  go_ret
  exact ⟨rfl, rfl⟩
set_option maxHeartbeats 400000 in
theorem pending_un (x : Value) (w : World) (hu : Unmade w x) : Calls Try.prog 26 #[x] w fun e w' => e = .returned (.slice none 0 0) ∧ w' = w := by
  go_enter Try.func26, Try.ntmps26
  go_wp2_with (go_at_call 29; refine (show Calls Try.prog 29 #[x] w _ from hu).mono ?_; rintro e w' ⟨rfl, rfl⟩)
  go_ret
  exact ⟨rfl, rfl⟩

/-- What a law tells: true, and nothing that was there has turned. -/
def PLaw (w : World) (e : Ending) (w' : World) : Prop := e = .returned (.bool true) ∧ Adds w w'

/-- A cell that was there holds what it held. -/
theorem below_adds {w1 w2 : World} (h2 : Adds w1 w2) {a : Addr} {v : Value} (h : w1.cell? a = some v) : w2.cell? a = some v := by
  rw [World.cell?_of_block (w := w1) (h2.block a.block (World.block_lt_of_cell? w1 _ h) id)]; exact h

set_option maxRecDepth 100000 in
set_option maxHeartbeats 2000000 in
theorem nobody_walk (i : Int) (b : Value) (ka : Option Addr) (kn kc : Nat) (torn at_ : Int) (w : World) : Calls Try.prog 4 #[.int .i64 i, b, .agg #[.slice ka kn kc, .int .i64 torn, .int .i64 at_]] w (PLaw w) := by
  go_enter Try.func4, Try.ntmps4
  go_wp2
  have hst : ∃ w3 : World, w3 = ((w.alloc (.cells #[.slice ka kn kc, .int .i64 torn, .int .i64 at_] 33)).alloc (.cells #[.int .i64 0, .map none, .slice none 0 0, .int .i64 0, .int .i64 0] 53)).alloc (.cells #[.pointer none, .pointer (some ⟨w.heap.size + 1, 0, none⟩)] 23) := ⟨_, rfl⟩
  obtain ⟨w3, hw3⟩ := hst
  rw [← hw3]
  have hA3 : Adds w w3 := by rw [hw3]; exact (((Touch.refl _ w).alloc _).alloc _).alloc _
  have l0 : w3.cell? ⟨w.heap.size, 0, none⟩ = some (.slice ka kn kc) := by rw [hw3]; simp [go_sem]
  have l1 : w3.cell? ⟨w.heap.size, 1, none⟩ = some (.int .i64 torn) := by rw [hw3]; simp [go_sem]
  have l2 : w3.cell? ⟨w.heap.size, 2, none⟩ = some (.int .i64 at_) := by rw [hw3]; simp [go_sem]
  have z0 : w3.cell? ⟨w.heap.size + 1, 0, none⟩ = some (.int .i64 0) := by rw [hw3]; simp [go_sem]
  have s0 : w3.cell? ⟨w.heap.size + 1 + 1, 0, none⟩ = some (.pointer none) := by rw [hw3]; simp [go_sem]
  have s1 : w3.cell? ⟨w.heap.size + 1 + 1, 1, none⟩ = some (.pointer (some ⟨w.heap.size + 1, 0, none⟩)) := by rw [hw3]; simp [go_sem]
  clear hw3
  go_loopw [17] (fun t wr => ∃ k : Nat, k ≤ 2 ∧ t = .int .i64 k ∧ Adds w3 wr) (fun t _ => 2 - (intOf t).toNat)
  case atStart => exact ⟨0, by omega, rfl, Touch.refl _ _⟩
  case round =>
    obtain ⟨k, hk, rfl, hAr⟩ := hrel
    by_cases h2 : k = 2
    · subst h2
      go_wp2_with (go_at_call 10; refine (works_any _).mono ?_; rintro e w9 ⟨rfl, hA9⟩)
      go_ret
      exact ⟨rfl, (hA3.trans hAr).trans hA9⟩
    · have t0 := below_adds hAr l0
      have t1 := below_adds hAr l1
      have t2 := below_adds hAr l2
      have y0 := below_adds hAr z0
      have q0 := below_adds hAr s0
      have q1 := below_adds hAr s1
      clear l0 l1 l2 z0 s0 s1
      obtain ⟨x, hx, hu⟩ : ∃ x, wr.cell? ⟨w.heap.size + 1 + 1, k, none⟩ = some x ∧ ∀ w', Adds wr w' → Unmade w' x := by
        by_cases h0 : k = 0
        · subst h0; exact ⟨_, q0, fun w' _ => unmade_nil w'⟩
        · obtain rfl : k = 1 := by omega
          exact ⟨_, q1, fun w' h => unmade_zero (below_adds h y0)⟩
      have HU := hid hu
      clear hu q0 q1 y0
      have hlt : k < 2 := by omega
      go_wp2_with (first
        | (go_at_call 23; refine (read_un x i _ (HU.out _ (Touch.refl _ _))).mono ?_; rintro e _ ⟨rfl, hw⟩; rw [hw])
        | (go_at_call 18; refine (lose_un x _ _ HU.out).mono ?_; rintro e w5 ⟨rfl, hA5⟩)
        | (go_at_call 12; refine (write_un x i b _ (HU.out _ hA5)).mono ?_; rintro e _ ⟨rfl, hw⟩; rw [hw])
        | (go_at_call 14; refine (sync_un x _ (HU.out _ hA5)).mono ?_; rintro e _ ⟨rfl, hw⟩; rw [hw])
        | (go_at_call 16; refine (cut_un x i _ (HU.out _ hA5)).mono ?_; rintro e _ ⟨rfl, hw⟩; rw [hw])
        | (go_at_call 21; refine (spoil_un x i i 1 _ (HU.out _ hA5)).mono ?_; rintro e _ ⟨rfl, hw⟩; rw [hw])
        | (go_at_call 24; refine (size_un x _ (HU.out _ hA5)).mono ?_; rintro e _ ⟨rfl, hw⟩; rw [hw])
        | (go_at_call 25; refine (steps_un x _ (HU.out _ hA5)).mono ?_; rintro e _ ⟨rfl, hw⟩; rw [hw])
        | (go_at_call 26; refine (pending_un x _ (HU.out _ hA5)).mono ?_; rintro e _ ⟨rfl, hw⟩; rw [hw]))
      go_roundw
      case rel => exact ⟨k + 1, by omega, by go_num, hAr.trans hA5⟩
      case measure => simp [intOf]; omega

end Go.Proofs.Ytjjknckcodhnmaa
