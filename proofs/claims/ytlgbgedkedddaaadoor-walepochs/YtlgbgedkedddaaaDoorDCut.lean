/- Cut, Steps, Size; Write where the power is off, or where it is refused. -/
import Derived.Test.YtlgbgedkedddaaaDoorDSync
namespace Go.Proofs.YtlgbgedkedddaaaDoor
open Go.RowKit

/-- The state behind a cut. -/
def dSt.cut (D : dSt) (n : Int) : dSt := { D with left := if D.left = 0 then 0 else n }
/-- What Cut leaves. -/
def PCut (w : World) (B p hb : Nat) (wv : Value) (D : dSt) (n : Int) (e : Ending) (w' : World) : Prop := e = .returned (.int .i64 0) ∧ IsDisk w' B p hb wv (D.cut n) ∧ Touch (fun k => k = p) w w'

set_option maxRecDepth 100000 in
/-- A disk whose struct has turned in its last cell. -/
theorem IsDisk.setLeft {w : World} {B p hb : Nat} {wv : Value} {D : dSt} (hd : IsDisk w B p hb wv D) (n : Int) : IsDisk (w.setCell ⟨p, 4, none⟩ (.int .i64 n)) B p hb wv { D with left := n } := by
  obtain ⟨es, clock, h1, h2⟩ := hd.held
  have hne := hd.ne
  refine ⟨heap_setCell_same w p 4 _ 27 _ hd.box, ⟨es, clock, ?_, h2⟩, ?_, hd.good, hd.goodW, hd.low⟩
  · rw [heap_setCell_other _ _ _ _ (Ne.symm hne.1)]; exact h1
  · refine hd.wait.kept (row := some p) ⟨rfl, rfl, rfl, by simp, fun k _ hk => heap_setCell_other w _ k _ (fun e => hk (by rw [e]))⟩ ?_
    cases hv : wv.ownBlock with
    | none => exact .inl rfl
    | some k => exact .inr (fun e => (hne.2 k hv).2 (by simpa using e))

set_option maxRecDepth 100000 in
set_option maxHeartbeats 400000 in
theorem cut_bad (p : Nat) (s n : Int) (w : World) (c0 : w.cell? ⟨p, 0, none⟩ = some (.int .i64 s)) (hs : 0 < s) (hn : n < 0) :
    Calls Tryd.prog 18 #[.pointer (some ⟨p, 0, none⟩), .int .i64 n] w fun e w' => e = .returned (.int .i64 2) ∧ w' = w := by
  have d1 : decide (0 < s) = true := by simpa using hs
  have m1 := made_any p s w c0
  rw [d1] at m1
  have M1 := hid m1
  clear m1 d1 hs c0
  go_enter Tryd.func18, Tryd.ntmps18
  go_wp2_with (go_at_call 36; refine M1.out.mono ?_; rintro e w' ⟨rfl, rfl⟩)
  go_ret
  exact ⟨rfl, rfl⟩

set_option maxRecDepth 100000 in
set_option maxHeartbeats 400000 in
theorem cut_ok (B p hb : Nat) (wv : Value) (D : dSt) (n : Int) (w : World) (hd : IsDisk w B p hb wv D) (hsz : 0 < D.size) (hn : 0 ≤ n) :
    Calls Tryd.prog 18 #[.pointer (some ⟨p, 0, none⟩), .int .i64 n] w (PCut w B p hb wv D n) := by
  have d1 : decide (0 < D.size) = true := by simpa using hsz
  have m1 := made_any p D.size w (cellOf hd.box 0)
  have m3 := off_any p D.left w (cellOf hd.box 4)
  rw [d1] at m1
  have hn' : ¬ n < 0 := by omega
  have c4 : w.cell? ⟨p, 4, none⟩ = some (.int .i64 D.left) := cellOf hd.box 4
  have f4 : w.frozen? ⟨p, 4, none⟩ = false := frozen_of_row w p 4 _ 27 hd.box
  by_cases h : D.left = 0
  · have d3 : (D.left == 0) = true := by simp [h]
    rw [d3] at m3
    have M1 := hid m1
    have M3 := hid m3
    have HD := hid hd
    have HH := hid h
    clear m1 m3 d1 d3 hd h
    go_enter Tryd.func18, Tryd.ntmps18
    go_wp2_with (first
      | (go_at_call 36; refine M1.out.mono ?_; rintro e _ ⟨rfl, hw⟩; rw [hw])
      | (go_at_call 37; refine M3.out.mono ?_; rintro e _ ⟨rfl, hw⟩; rw [hw]))
    go_ret
    refine ⟨rfl, ?_, Touch.refl _ _⟩
    have : D.cut n = D := by cases D; simp only [dSt.cut]; simp only at HH; rw [if_pos HH.out]; rw [HH.out]
    rw [this]; exact HD.out
  · have d3 : (D.left == 0) = false := by simp [h]
    rw [d3] at m3
    have M1 := hid m1
    have M3 := hid m3
    have HD := hid hd
    have HH := hid h
    clear m1 m3 d1 d3 hd h
    go_enter Tryd.func18, Tryd.ntmps18
    go_wp2_with (first
      | (go_at_call 36; refine M1.out.mono ?_; rintro e _ ⟨rfl, hw⟩; rw [hw])
      | (go_at_call 37; refine M3.out.mono ?_; rintro e _ ⟨rfl, hw⟩; rw [hw]))
    go_ret
    refine ⟨rfl, ?_, Touch.setCell (T := fun k => k = p) (Touch.refl _ _) (fun _ => rfl) _⟩
    have : D.cut n = { D with left := n } := by simp only [dSt.cut]; rw [if_neg HH.out]
    rw [this]; exact HD.out.setLeft n

set_option maxRecDepth 100000 in
set_option maxHeartbeats 400000 in
theorem steps_any (p : Nat) (n s : Int) (w : World) (c0 : w.cell? ⟨p, 0, none⟩ = some (.int .i64 n)) (c3 : w.cell? ⟨p, 3, none⟩ = some (.int .i64 s)) (hn : 0 < n) :
    Calls Tryd.prog 23 #[.pointer (some ⟨p, 0, none⟩)] w fun e w' => e = .returned (.int .i64 s) ∧ w' = w := by
  have d1 : decide (0 < n) = true := by simpa using hn
  have m1 := made_any p n w c0
  rw [d1] at m1
  have M1 := hid m1
  clear m1 d1 hn c0
  go_enter Tryd.func23, Tryd.ntmps23
  go_wp2_with (go_at_call 36; refine M1.out.mono ?_; rintro e _ ⟨rfl, hw⟩; rw [hw])
  go_ret
  exact ⟨rfl, rfl⟩

set_option maxRecDepth 100000 in
set_option maxHeartbeats 400000 in
theorem size_any (p : Nat) (n : Int) (w : World) (c0 : w.cell? ⟨p, 0, none⟩ = some (.int .i64 n)) (hn : 0 < n) :
    Calls Tryd.prog 25 #[.pointer (some ⟨p, 0, none⟩)] w fun e w' => e = .returned (.int .i64 n) ∧ w' = w := by
  have d1 : decide (0 < n) = true := by simpa using hn
  have m1 := made_any p n w c0
  rw [d1] at m1
  have M1 := hid m1
  clear m1 d1 hn
  go_enter Tryd.func25, Tryd.ntmps25
  go_wp2_with (go_at_call 36; refine M1.out.mono ?_; rintro e _ ⟨rfl, hw⟩; rw [hw])
  go_ret
  exact ⟨rfl, rfl⟩

set_option maxRecDepth 100000 in
set_option maxHeartbeats 400000 in
theorem write_off (p : Nat) (n i : Int) (ga : Option Addr) (c : Nat) (w : World) (c0 : w.cell? ⟨p, 0, none⟩ = some (.int .i64 n)) (c4 : w.cell? ⟨p, 4, none⟩ = some (.int .i64 0)) (hn : 0 < n) (hi : 0 ≤ i ∧ i < n) :
    Calls Tryd.prog 50 #[.pointer (some ⟨p, 0, none⟩), .int .i64 i, .slice ga 256 c] w fun e w' => e = .returned (.int .i64 10) ∧ w' = w := by
  have d1 : decide (0 < n) = true := by simpa using hn
  have d2 : (decide (0 ≤ i) && decide (i < n)) = true := by simp [hi.1, hi.2]
  have m1 := made_any p n w c0
  have m2 := hasSector_any p n i w c0
  have m3 := off_any p 0 w c4
  rw [d1] at m1; rw [d2] at m2
  have M1 := hid m1
  have M2 := hid m2
  have M3 := hid m3
  clear m1 m2 m3 d1 d2 hi hn c0 c4
  go_enter Tryd.func50, Tryd.ntmps50
  go_wp2_with (first
    | (go_at_call 36; refine M1.out.mono ?_; rintro e w' ⟨rfl, rfl⟩)
    | (go_at_call 61; refine M2.out.mono ?_; rintro e w' ⟨rfl, rfl⟩)
    | (go_at_call 37; refine M3.out.mono ?_; rintro e w' ⟨rfl, rfl⟩))
  go_ret
  exact ⟨rfl, rfl⟩

end Go.Proofs.YtlgbgedkedddaaaDoor
