/- A log's small calls. -/
import Derived.Test.YtlgbgedkedddaaaDoorWMem
namespace Go.Proofs.YtlgbgedkedddaaaDoor
open Go.RowKit

set_option maxRecDepth 100000 in
theorem lmade_nil (w : World) : Calls Tryd.prog 27 #[.pointer none] w (Tells (.bool false) w) := by
  go_enter Tryd.func27, Tryd.ntmps27
  go_wp2
  go_ret
  exact ⟨rfl, rfl⟩
set_option maxRecDepth 100000 in
theorem lmade_zero (l : Nat) (w : World) (c0 : w.cell? ⟨l, 0, none⟩ = some (.pointer none)) : Calls Tryd.prog 27 #[Ptr l] w (Tells (.bool false) w) := by
  go_enter Tryd.func27, Tryd.ntmps27
  go_wp2
  go_ret
  exact ⟨rfl, rfl⟩
set_option maxRecDepth 100000 in
theorem lmade_yes (l p : Nat) (w : World) (c0 : w.cell? ⟨l, 0, none⟩ = some (Ptr p)) : Calls Tryd.prog 27 #[Ptr l] w (Tells (.bool true) w) := by
  go_enter Tryd.func27, Tryd.ntmps27
  go_wp2
  go_ret
  exact ⟨rfl, rfl⟩
set_option maxRecDepth 100000 in
theorem waiting_nil (w : World) : Calls Tryd.prog 13 #[.pointer none] w (Tells (.int .i64 0) w) := by
  go_enter Tryd.func13, Tryd.ntmps13
  go_wp2
  go_ret
  exact ⟨rfl, rfl⟩
set_option maxRecDepth 100000 in
theorem waiting_any (l : Nat) (n : Int) (w : World) (c0 : w.cell? ⟨l, 7, none⟩ = some (.int .i64 n)) : Calls Tryd.prog 13 #[Ptr l] w (Tells (.int .i64 n) w) := by
  go_enter Tryd.func13, Tryd.ntmps13
  go_wp2
  go_ret
  exact ⟨rfl, rfl⟩
set_option maxRecDepth 100000 in
theorem used_nil (w : World) : Calls Tryd.prog 14 #[.pointer none] w (Tells (.int .i64 0) w) := by
  go_enter Tryd.func14, Tryd.ntmps14
  go_wp2
  go_ret
  exact ⟨rfl, rfl⟩
set_option maxRecDepth 100000 in
theorem used_any (l : Nat) (n : Int) (w : World) (c0 : w.cell? ⟨l, 6, none⟩ = some (.int .i64 n)) : Calls Tryd.prog 14 #[Ptr l] w (Tells (.int .i64 n) w) := by
  go_enter Tryd.func14, Tryd.ntmps14
  go_wp2
  go_ret
  exact ⟨rfl, rfl⟩
set_option maxRecDepth 100000 in
theorem room_nil (w : World) : Calls Tryd.prog 15 #[.pointer none] w (Tells (.int .i64 0) w) := by
  go_enter Tryd.func15, Tryd.ntmps15
  go_wp2
  go_ret
  exact ⟨rfl, rfl⟩
set_option maxRecDepth 100000 in
theorem lroom_any (l : Nat) (n m : Int) (w : World) (c2 : w.cell? ⟨l, 2, none⟩ = some (.int .i64 n)) (c6 : w.cell? ⟨l, 6, none⟩ = some (.int .i64 m)) (h0 : 0 ≤ m) (h1 : m ≤ n) (h2 : n ≤ 10000) : Calls Tryd.prog 15 #[Ptr l] w (Adding (.int .i64 (n - m)) w) := by
  go_enter Tryd.func15, Tryd.ntmps15
  go_wp2
  go_region
  go_wp2
  go_ret
  exact ⟨rfl, (Touch.refl _ w).drew⟩
set_option maxRecDepth 100000 in
theorem sectorsOf_any (n : Nat) (w : World) (h : n ≤ 1000000000) : Calls Tryd.prog 29 #[.int .i64 (n : Int)] w (Tells (.int .i64 (W.secs n : Int)) w) := by
  have HN := hid (show (W.secs n : Int) = (4 + (n : Int) + 232) / 233 by unfold W.secs; omega)
  go_enter Tryd.func29, Tryd.ntmps29
  go_wp2
  go_ret
  refine ⟨?_, rfl⟩
  rw [HN.out]
  go_num
set_option maxRecDepth 100000 in
theorem kindBehind_any (n : Nat) (w : World) : Calls Tryd.prog 44 #[.int .i64 (n : Int)] w (Tells (.int .u8 ((W.kind n).toNat : Int)) w) := by
  by_cases h : n = 0
  · subst h
    go_enter Tryd.func44, Tryd.ntmps44
    go_wp2
    go_ret
    exact ⟨rfl, rfl⟩
  · have h' : ¬ (n : Int) = 0 := by omega
    have HK := hid (show W.kind n = 2 by unfold W.kind; rw [if_neg h])
    go_enter Tryd.func44, Tryd.ntmps44
    go_wp2
    go_ret
    rw [HK.out]
    exact ⟨rfl, rfl⟩
set_option maxRecDepth 100000 in
theorem number_any (n : Nat) (w : World) (h : n < 1000000000) : Calls Tryd.prog 30 #[.int .i64 (n : Int)] w (POwn w (M.enc n)) := by
  have H := hid (putUint_any none [] 0 n w (by decide) (by omega) (fun _ => rfl) (At.nil _ _))
  go_enter Tryd.func30, Tryd.ntmps30
  go_wp2_with (first | (go_at_call 47; refine H.out.mono ?_; rintro e w1 ⟨v, rfl, h1, h2⟩; have HQ := hid (And.intro h1 h2); clear h1 h2))
  go_ret
  exact ⟨v, rfl, HQ.out.1, HQ.out.2⟩
set_option maxRecDepth 100000 in
theorem mark_any (l e i : Nat) (w : World) (c3 : w.cell? ⟨l, 3, none⟩ = some (.int .i64 (e : Int))) (he : e ≤ 1000000000) (hi : i ≤ 20000) : Calls Tryd.prog 43 #[Ptr l, .int .i64 (i : Int)] w (Tells (.int .u64 (W.mark e i : Int)) w) := by
  have HM := hid (show (W.mark e i : Int) = (e : Int) * 16777216 + i + 1 by unfold W.mark; omega)
  go_enter Tryd.func43, Tryd.ntmps43
  go_wp2
  go_ret
  refine ⟨?_, rfl⟩
  rw [HM.out]
  go_num
end Go.Proofs.YtlgbgedkedddaaaDoor
