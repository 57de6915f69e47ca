/- Bytes that are taken, by a reader and by the reference's. -/
import Derived.Test.YtahbggdidhmnfaaDoorLeaf
namespace Go.Proofs.YtahbggdidhmnfaaDoor
open Go.RowKit

set_option maxHeartbeats 400000 in
theorem take_ref (v : Value) (n : Int) (e : Nat) (w : World) (he : e ≠ 0) (H : Hid (Calls Tryd.prog 51 #[v] w fun r w' => r = .returned (.int .i64 (e : Int)) ∧ w' = w)) :
    Calls Tryd.prog 48 #[v, .int .i64 n] w fun r w' => r = .returned (.slice none 0 0) ∧ w' = w := by
  have h1 : ¬ ((e : Int) = 0) := by omega
  clear he
  go_enter Tryd.func48, Tryd.ntmps48
  go_wp2_with (go_at_call 51; refine H.out.mono ?_; rintro e w' ⟨rfl, rfl⟩)
  go_ret
  exact ⟨rfl, rfl⟩
set_option maxHeartbeats 400000 in
theorem take_short (p : Nat) (a : Option Addr) (len cap n : Nat) (w : World) (hb : w.heap[p]? = some (.cells #[.bool true, .int .i64 0, .slice a len cap] 74 (0, 0))) (hn : len < n) :
    Calls Tryd.prog 48 #[.pointer (some ⟨p, 0, none⟩), .int .i64 (n : Int)] w fun r w' => r = .returned (.slice none 0 0) ∧ w' = w.setRow p #[.bool true, .int .i64 21, .slice none 0 0] := by
  have H := hid (err_yes p 0 w (cellOf hb 0) (cellOf hb 1))
  have HR := hid (refuse_box p _ _ _ 21 w hb)
  have c2 : w.cell? ⟨p, 2, none⟩ = some (.slice a len cap) := cellOf hb 2
  have hn' : (len : Int) < (n : Int) := by omega
  clear hb hn
  go_enter Tryd.func48, Tryd.ntmps48
  go_wp2_with (first | (go_at_call 51; refine H.out.mono ?_; rintro e w' ⟨rfl, rfl⟩) | (go_at_call 52; refine HR.out.mono ?_; rintro e w2 ⟨rfl, rfl⟩))
  go_ret
  exact ⟨rfl, rfl⟩
set_option maxHeartbeats 400000 in
theorem take_ok (p : Nat) (a : Option Addr) (len cap n : Nat) (w : World) (hb : w.heap[p]? = some (.cells #[.bool true, .int .i64 0, .slice a len cap] 74 (0, 0))) (hn : n ≤ len) (hc : len ≤ cap) :
    Calls Tryd.prog 48 #[.pointer (some ⟨p, 0, none⟩), .int .i64 (n : Int)] w fun r w' => r = .returned (.slice a n cap) ∧ w' = w.setRow p #[.bool true, .int .i64 0, .slice (if cap = n then a else a.map (·.add n)) (len - n) (cap - n)] := by
  have H := hid (err_yes p 0 w (cellOf hb 0) (cellOf hb 1))
  have c2 : w.cell? ⟨p, 2, none⟩ = some (.slice a len cap) := cellOf hb 2
  have f2 : w.frozen? ⟨p, 2, none⟩ = false := frozen_of_row w p 2 _ 74 hb
  have E := hid (fun u => show w.setCell ⟨p, 2, none⟩ u = w.setRow p #[.bool true, .int .i64 0, u] from setCell_eq_setRow w p 2 _ 74 _ _ hb)
  have hn' : (n : Int) ≤ (len : Int) := by omega
  have hn2 : (n : Int) ≤ (cap : Int) := by omega
  clear hb hn hc
  go_enter Tryd.func48, Tryd.ntmps48
  go_wp2_with (first | (go_at_call 51; refine H.out.mono ?_; rintro e w' ⟨rfl, rfl⟩))
  all_goals (go_ret; exact ⟨rfl, E.out _⟩)
/-- What is taken. -/
def PTake (w : World) (v : Value) (n : Nat) (s : M.St) (e : Ending) (w' : World) : Prop :=
  ∃ a cap, e = .returned (.slice a (M.takeR n s).1.length cap) ∧ At w' a (M.takeR n s).1 ∧ RD w' v (M.takeR n s).2 ∧ Touch (Own1 v) w w'
theorem take_any {v : Value} {s : M.St} {w : World} (n : Nat) (h : RD w v s) : Calls Tryd.prog 48 #[v, .int .i64 (n : Int)] w (PTake w v n s) := by
  by_cases he : s.e = 0
  · obtain ⟨p, rfl, hR⟩ := h.made he
    obtain ⟨a, cap, hb, hL⟩ := hR.box
    rw [he] at hb
    by_cases hn : s.l.length < n
    · refine (take_short p a _ cap n w hb hn).mono ?_
      rintro e w' ⟨rfl, hw⟩
      obtain ⟨h1, h2⟩ := hR.set (e := 21) (l := []) hw (Lies.nil w p) (fun _ => rfl) (by simp) (by omega)
      rw [PTake, M.takeR_short he hn]
      exact ⟨none, 0, rfl, At.nil _ _, .inr (.inr ⟨p, rfl, h1⟩), h2⟩
    · refine (take_ok p a _ cap n w hb (by omega) hL.room).mono ?_
      rintro e w' ⟨rfl, hw⟩
      rw [← List.length_drop] at hw
      obtain ⟨h1, h2⟩ := hR.set (e := 0) (l := s.l.drop n) hw (hL.drop n (by omega)) (fun h => absurd rfl h) (by rw [List.length_drop]; have := hR.len; omega) (by omega)
      rw [PTake, M.takeR_ok he hn]
      have hlen : (s.l.take n).length = n := by rw [List.length_take]; omega
      refine ⟨a, cap, by rw [hlen], (hL.at_.pre n).block (fun b o e hb => ?_), .inr (.inr ⟨p, rfl, h1⟩), h2⟩
      refine h2.block b hb (fun c => ?_)
      have h3 : b < p := (hL.low _ e).2
      simp only [Own1, Value.pointer.injEq, Option.some.injEq, Addr.mk.injEq] at c
      omega
  · refine (take_ref v n s.e w he (err_any h)).mono ?_
    rintro e w' ⟨rfl, rfl⟩
    rw [PTake, M.takeR_ref he]
    exact ⟨none, 0, rfl, At.nil _ _, h, Touch.refl _ _⟩

set_option maxHeartbeats 400000 in
theorem rtake_ref (p : Nat) (n : Int) (e : Nat) (w : World) (he : e ≠ 0) (c1 : w.cell? ⟨p, 1, none⟩ = some (.int .i64 (e : Int))) :
    Calls Tryd.prog 42 #[.pointer (some ⟨p, 0, none⟩), .int .i64 n] w fun r w' => r = .returned (.slice none 0 0) ∧ w' = w := by
  have h1 : ¬ ((e : Int) = 0) := by omega
  clear he
  go_enter Tryd.func42, Tryd.ntmps42
  go_wp2
  go_ret
  exact ⟨rfl, rfl⟩
set_option maxHeartbeats 400000 in
theorem rtake_short (p : Nat) (a : Option Addr) (len cap n : Nat) (w : World) (hb : w.heap[p]? = some (.cells #[.slice a len cap, .int .i64 0] 53 (0, 0))) (hn : len < n) :
    Calls Tryd.prog 42 #[.pointer (some ⟨p, 0, none⟩), .int .i64 (n : Int)] w fun r w' => r = .returned (.slice none 0 0) ∧ w' = w.setRow p #[.slice none 0 0, .int .i64 21] := by
  have HR := hid (bad_box p _ _ 21 w hb)
  have c1 : w.cell? ⟨p, 1, none⟩ = some (.int .i64 0) := cellOf hb 1
  have c2 : w.cell? ⟨p, 0, none⟩ = some (.slice a len cap) := cellOf hb 0
  have hn' : (len : Int) < (n : Int) := by omega
  clear hb hn
  go_enter Tryd.func42, Tryd.ntmps42
  go_wp2_with (first | (go_at_call 49; refine HR.out.mono ?_; rintro e w2 ⟨rfl, rfl⟩))
  go_ret
  exact ⟨rfl, rfl⟩
set_option maxHeartbeats 400000 in
theorem rtake_ok (p : Nat) (a : Option Addr) (len cap n : Nat) (w : World) (hb : w.heap[p]? = some (.cells #[.slice a len cap, .int .i64 0] 53 (0, 0))) (hn : n ≤ len) (hc : len ≤ cap) :
    Calls Tryd.prog 42 #[.pointer (some ⟨p, 0, none⟩), .int .i64 (n : Int)] w fun r w' => r = .returned (.slice a n cap) ∧ w' = w.setRow p #[.slice (if cap = n then a else a.map (·.add n)) (len - n) (cap - n), .int .i64 0] := by
  have c1 : w.cell? ⟨p, 1, none⟩ = some (.int .i64 0) := cellOf hb 1
  have c2 : w.cell? ⟨p, 0, none⟩ = some (.slice a len cap) := cellOf hb 0
  have f2 : w.frozen? ⟨p, 0, none⟩ = false := frozen_of_row w p 0 _ 53 hb
  have E := hid (fun u => show w.setCell ⟨p, 0, none⟩ u = w.setRow p #[u, .int .i64 0] from setCell_eq_setRow w p 0 _ 53 _ _ hb)
  have hn' : (n : Int) ≤ (len : Int) := by omega
  have hn2 : (n : Int) ≤ (cap : Int) := by omega
  clear hb hn hc
  go_enter Tryd.func42, Tryd.ntmps42
  go_wp2
  all_goals (go_ret; exact ⟨rfl, E.out _⟩)
/-- What the reference's takes. -/
def PRTake (w : World) (p : Nat) (n : Nat) (s : M.St) (e : Ending) (w' : World) : Prop :=
  ∃ a cap, e = .returned (.slice a (M.takeR n s).1.length cap) ∧ At w' a (M.takeR n s).1 ∧ IsS w' p (M.takeR n s).2 ∧ Touch (Own1 (.pointer (some ⟨p, 0, none⟩))) w w'
theorem rtake_any {p : Nat} {s : M.St} {w : World} (n : Nat) (h : IsS w p s) : Calls Tryd.prog 42 #[.pointer (some ⟨p, 0, none⟩), .int .i64 (n : Int)] w (PRTake w p n s) := by
  by_cases he : s.e = 0
  · obtain ⟨a, cap, hb, hL⟩ := h.box
    rw [he] at hb
    by_cases hn : s.l.length < n
    · refine (rtake_short p a _ cap n w hb hn).mono ?_
      rintro e w' ⟨rfl, hw⟩
      obtain ⟨h1, h2⟩ := h.set (e := 21) (l := []) hw (Lies.nil w p) (fun _ => rfl) (by simp) (by omega)
      rw [PRTake, M.takeR_short he hn]
      exact ⟨none, 0, rfl, At.nil _ _, h1, h2⟩
    · refine (rtake_ok p a _ cap n w hb (by omega) hL.room).mono ?_
      rintro e w' ⟨rfl, hw⟩
      rw [← List.length_drop] at hw
      obtain ⟨h1, h2⟩ := h.set (e := 0) (l := s.l.drop n) hw (hL.drop n (by omega)) (fun h => absurd rfl h) (by rw [List.length_drop]; have := h.len; omega) (by omega)
      rw [PRTake, M.takeR_ok he hn]
      have hlen : (s.l.take n).length = n := by rw [List.length_take]; omega
      refine ⟨a, cap, by rw [hlen], (hL.at_.pre n).block (fun b o e hb => ?_), h1, h2⟩
      refine h2.block b hb (fun c => ?_)
      have h3 : b < p := (hL.low _ e).2
      simp only [Own1, Value.pointer.injEq, Option.some.injEq, Addr.mk.injEq] at c
      omega
  · obtain ⟨a, cap, hb, hL⟩ := h.box
    refine (rtake_ref p n s.e w he (cellOf hb 1)).mono ?_
    rintro e w' ⟨rfl, rfl⟩
    rw [PRTake, M.takeR_ref he]
    exact ⟨none, 0, rfl, At.nil _ _, h, Touch.refl _ _⟩
end Go.Proofs.YtahbggdidhmnfaaDoor
