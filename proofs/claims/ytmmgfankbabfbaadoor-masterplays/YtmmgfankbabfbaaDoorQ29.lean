/- Texts put together: ULaw1, UNobody. -/
import Derived.Test.YtmmgfankbabfbaaDoorQ27
import Derived.Test.YtmmgfankbabfbaaDoorQ28
/- opened, works. -/
namespace Go.Proofs.YtmmgfankbabfbaaDoor
open Go.RowKit
theorem dnew_okU (n : Int) (k : Nat) (h : 0 < n) : DOk (dSt.new n) k := ⟨Nat.zero_le _, Int.le_refl _, by show (0 : Int) ≤ k; omega, Int.le_refl _, by show (-1 : Int) ≤ _; decide, h⟩
/-- What opened tells. -/
def POp (w : World) (e : Ending) (w' : World) : Prop := ∃ m p, e = .returned (.tuple #[Ptr p, Ptr m]) ∧ Hid (∃ OM OD, Ml w w' OM OD m p ms0 (dSt.new 3))
set_option maxRecDepth 100000 in
theorem op_ml {w w1 w2 : World} {OD : Nat → Prop} {m p : Nat} {s : U.MS} {D : dSt} (hA : Adds w w1) (hD : IsDO w1 OD p D) (hL : ∀ k, OD k → w.heap.size ≤ k ∧ k < w1.heap.size) (h2 : IsMas w2 (fun k => w1.heap.size ≤ k ∧ k < w2.heap.size) m p s ∧ Adds w1 w2) : ∃ OM OD, Ml w w2 OM OD m p s D := by
  have s1 := hA.size
  have s2 := h2.2.size
  refine ⟨_, OD, h2.1, hD.adds h2.2, fun k q c => ?_, fun k q => ?_, fun k q => ?_, hA.trans h2.2⟩
  · have := (hL k c).2; omega
  · rcases q with q | q
    · omega
    · exact (hL k q).1
  · rcases q with q | q
    · exact q.2
    · have := (hL k q).2; omega
set_option maxRecDepth 100000 in
set_option maxHeartbeats 2000000 in
theorem opened_any (w : World) (hT : Tab w) : Calls Tryd.prog 17 #[] w (POp w) := by
  have HN := hid (new_yes 3 w w.heap.size (Nat.le_refl _) (by omega) (by omega))
  have HO := hid (fun (w1 : World) (p : Nat) (OD : Nat → Prop) (hA : Adds w w1) (hD : IsDO w1 OD p (dSt.new 3)) => show Calls Tryd.prog 13 #[Ptr p, .int .i64 1] w1 (PMas w1 p ms0) by
    have q := mopen_ok hD (dnew_okU 3 0 (by decide)) (by decide) (hT.adds hA) 1 (by show ((1 : Nat) : Int) + 2 ≤ 3; decide) (by show (3 : Int) ≤ 4096; decide) (by show (-1 : Int) ≠ 0; decide)
    rw [show msAt (dSt.new 3) 1 = ms0 from on_new.open_] at q
    exact q)
  clear hT
  go_enter Tryd.func17, Tryd.ntmps17
  go_wp2_with (first
    | (go_at_call 7; refine HN.out.mono ?_; rintro e w1 ⟨p, hb, rfl, hp, hhb, hd, hA1⟩
       have HD1 := hid (show IsDO w1 (fun k => k = p ∨ k = hb) p (dSt.new 3) from ⟨hb, _, hd.mono (Nat.zero_le _), .inl rfl, .inr rfl, fun k hk => (by cases hk)⟩)
       have HL1 := hid (show ∀ k, (k = p ∨ k = hb) → w.heap.size ≤ k ∧ k < w1.heap.size from fun k q => by
         have h1 := (Array.getElem?_eq_some_iff.1 hd.box).1
         obtain ⟨es, cl, h2, _⟩ := hd.held
         have h2 := (Array.getElem?_eq_some_iff.1 h2).1
         rcases q with rfl | rfl <;> omega)
       have HA1 := hid hA1
       clear hd hA1 hp hhb)
    | (go_at_call 13; refine (HO.out w1 p _ HA1.out HD1.out).mono ?_; rintro e w2 ⟨m, rfl, H2⟩
       obtain ⟨OM2, OD2, hw2⟩ := op_ml HA1.out HD1.out HL1.out H2.out
       have HW2 := hid hw2
       clear hw2))
  go_ret2
  exact ⟨m, p, rfl, OM2, OD2, HW2.out⟩
/-! ### works -/
def sM1 : U.MS := ms0.put ms0.other ⟨1, [5, 300]⟩
def dM1 : dSt := on2 ms0 [5, 300] 1 (dSt.new 3)
def sM2 : U.MS := sM1.put sM1.other ⟨2, []⟩
def dM2 : dSt := on2 sM1 [] 2 dM1
theorem fit2 : U.Fit [5, 300] := ⟨by decide, fun n hn => by rcases List.mem_cons.1 hn with rfl | hn; decide; rw [List.mem_singleton.1 hn]; decide⟩
theorem on1 : On sM1 dM1 := on_two (k := 1) (ns := [5, 300]) on_new (by decide) (by decide) fit2
theorem lat1 : sM1.lat = ⟨1, [5, 300]⟩ ∧ sM1.which = 0 ∧ sM1.at_ = 1 := put_lat (by decide)
set_option maxRecDepth 100000 in
theorem lat2 : sM2.which = 1 := by
  have h := (put_lat (s := sM1) (k := 2) (ns := []) (by rw [lat1.1]; decide)).2.1
  rw [show sM1.other = 1 by rw [U.MS.other, if_pos lat1.2.1]] at h
  exact h
set_option maxRecDepth 100000 in
theorem nq_two (w : World) : NQ (w.alloc (.cells #[.int .u64 5, .int .u64 300] 67)) (fun k => w.heap.size ≤ k) ⟨some ⟨w.heap.size, 0, none⟩, 2, [5, 300]⟩ := by
  refine ⟨?_, fun e => by cases e⟩
  intro j u hj
  refine ⟨_, _, rfl, Nat.le_refl _, ?_⟩
  rw [Nat.zero_add, cellOf (heap_alloc_new w _)]
  match j, hj with
  | 0, hj => cases hj; rfl
  | 1, hj => cases hj; rfl
theorem dok1 : DOk dM1 10 := (goW_ok (f := fun _ => savW ms0 [5, 300] 1) (r := 1) (i := 0) (dnew_okU 3 8 (by decide)))
set_option maxRecDepth 100000 in
theorem save1 {w0 w : World} {OM OD : Nat → Prop} {m p : Nat} (h : Ml w0 w OM OD m p ms0 (dSt.new 3)) (hT : Tab w0) : Calls Tryd.prog 16 #[Ptr m, .slice (some ⟨w.heap.size, 0, none⟩) 2 2, .int .i64 1] (w.alloc (.cells #[.int .u64 5, .int .u64 300] 67)) (PMl w0 (w.alloc (.cells #[.int .u64 5, .int .u64 300] 67)) OM OD m p sM1 dM1 (.int .i64 0)) := by
  have q := ml_save (h.add ((Touch.refl _ w).alloc (.cells #[.int .u64 5, .int .u64 300] 67))) on_new.ok (dnew_okU 3 0 (by decide)) (by decide) (by show ((1 : Nat) : Int) + 2 ≤ 3; decide) (by show (3 : Int) ≤ 4096; decide) hT (some ⟨w.heap.size, 0, none⟩) 2 2 [5, 300] rfl fit2.lt (nq_two w) (fun k q c => by have := h.lt k (.inr c); omega) ((1 : Nat) : Int)
  obtain ⟨e1, e2, e3⟩ := on_save on_new (k := 1) (ns := [5, 300]) (by decide) (by decide) fit2
  rw [e1, e2, e3] at q
  exact q
set_option maxRecDepth 100000 in
theorem save2 {w0 w : World} {OM OD : Nat → Prop} {m p : Nat} (h : Ml w0 w OM OD m p sM1 dM1) (hT : Tab w0) : Calls Tryd.prog 16 #[Ptr m, .slice none 0 0, .int .i64 1] w (PMl w0 w OM OD m p sM1 dM1 (.int .i64 2)) := by
  have q := ml_save h on1.ok dok1 (by decide) (by rw [lat1.2.2]; show ((1 : Nat) : Int) + 2 ≤ 3; decide) (by show (3 : Int) ≤ 4096; decide) hT none 0 0 [] rfl (fun _ h => (by cases h)) (NQ.nil _ (fun _ => False)) (fun _ c => c.elim) 1
  obtain ⟨e1, e2, e3⟩ := save_old (s := sM1) (D := dM1) (k := 1) (ns := []) (by rw [lat1.1]; decide)
  rw [e1, e2, e3] at q
  exact q
set_option maxRecDepth 100000 in
theorem save3 {w0 w : World} {OM OD : Nat → Prop} {m p : Nat} (h : Ml w0 w OM OD m p sM1 dM1) (hT : Tab w0) : Calls Tryd.prog 16 #[Ptr m, .slice none 0 0, .int .i64 2] w (PMl w0 w OM OD m p sM2 dM2 (.int .i64 0)) := by
  have q := ml_save h on1.ok dok1 (by decide) (by rw [lat1.2.2]; show ((1 : Nat) : Int) + 2 ≤ 3; decide) (by show (3 : Int) ≤ 4096; decide) hT none 0 0 [] rfl (fun _ h => (by cases h)) (NQ.nil _ (fun _ => False)) (fun _ c => c.elim) ((2 : Nat) : Int)
  obtain ⟨e1, e2, e3⟩ := on_save on1 (k := 2) (ns := []) (by rw [lat1.1]; decide) (by decide) U.Fit.nil
  rw [e1, e2, e3] at q
  exact q
theorem slot1 {w0 w : World} {OM OD : Nat → Prop} {m p : Nat} {D : dSt} (h : Ml w0 w OM OD m p ms0 D) : Calls Tryd.prog 15 #[Ptr m] w (Adding (.int .i64 (-1)) w) := ml_slot h
set_option maxRecDepth 100000 in
theorem slot2 {w0 w : World} {OM OD : Nat → Prop} {m p : Nat} {D : dSt} (h : Ml w0 w OM OD m p sM1 D) : Calls Tryd.prog 15 #[Ptr m] w (Adding (.int .i64 0) w) := by
  have q := ml_slot h
  rw [lat1.2.1] at q
  exact q
set_option maxRecDepth 100000 in
theorem slot3 {w0 w : World} {OM OD : Nat → Prop} {m p : Nat} {D : dSt} (h : Ml w0 w OM OD m p sM2 D) : Calls Tryd.prog 15 #[Ptr m] w (Adding (.int .i64 1) w) := by
  have q := ml_slot h
  rw [lat2] at q
  exact q
set_option maxRecDepth 100000 in
theorem late1 {w0 w : World} {OM OD : Nat → Prop} {m p : Nat} {D : dSt} (h : Ml w0 w OM OD m p sM1 D) : Calls Tryd.prog 14 #[Ptr m] w (fun e w' => ∃ a cap, e = .returned (.tuple #[.slice a 2 cap, .int .i64 1, .bool true]) ∧ Hid (NQ w' (fun k => w.heap.size ≤ k) ⟨a, cap, [5, 300]⟩ ∧ Adds w w')) := by
  have q := ml_latest h on1.ok
  rw [lat1.1] at q
  exact q
theorem step1 {w0 w : World} {OM OD : Nat → Prop} {m p : Nat} {s : U.MS} (h : Ml w0 w OM OD m p s dM1) : Calls Tryd.prog 22 #[Ptr p] w (Tells (.int .i64 2) w) := ml_steps h (by show (0 : Int) < 3; decide)
set_option maxRecDepth 100000 in
set_option maxHeartbeats 4000000 in
theorem works10 (w : World) (hT : Tab w) : Calls Tryd.prog 9 #[] w (Adding (.bool true) w) := by
  have HB := hid (opened_any w hT)
  have HT := hid hT
  have HSm := hid (fun (w' : World) (a : Option Addr) (cap : Nat) (Q : Nat → Prop) (h : NQ w' Q ⟨a, cap, [5, 300]⟩) => show Calls Tryd.prog 20 #[.slice a 2 cap, .slice (some ⟨w'.heap.size, 0, none⟩) 2 2] (w'.alloc (.cells #[.int .u64 5, .int .u64 300] 67)) (Adding (.bool true) (w'.alloc (.cells #[.int .u64 5, .int .u64 300] 67))) from
    same10 a (some ⟨w'.heap.size, 0, none⟩) cap 2 2 2 [5, 300] [5, 300] _ rfl rfl (h.adds ((Touch.refl _ w').alloc _)) (nq_two w') ⟨by decide, by decide⟩ true (by decide))
  clear hT
  go_enter Tryd.func9, Tryd.ntmps9
  go_wp2_with (first
    | (go_at_call 17; refine HB.out.mono ?_; rintro e w1 ⟨m, p, rfl, H1⟩; obtain ⟨OM1, OD1, h1⟩ := H1.out; have HW1 := hid h1; clear h1 H1)
    | (go_at_call 15; refine (slot3 HW8.out).mono ?_; rintro e w9 ⟨rfl, hA9⟩; have HW9 := hid (HW8.out.add hA9); clear hA9)
    | (go_at_call 15; refine (slot2 HW3.out).mono ?_; rintro e w4 ⟨rfl, hA4⟩; have HW4 := hid (HW3.out.add hA4); clear hA4)
    | (go_at_call 15; refine (slot1 HW1.out).mono ?_; rintro e w2 ⟨rfl, hA2⟩; have HW2 := hid (HW1.out.add hA2); clear hA2)
    | (go_at_call 16; refine (save3 HW7.out HT.out).mono ?_; rintro e w8 ⟨rfl, H8⟩; obtain ⟨OM8, OD8, h8, _, _⟩ := H8.out; have HW8 := hid h8; clear h8 H8)
    | (go_at_call 16; refine (save2 HW4.out HT.out).mono ?_; rintro e w5 ⟨rfl, H5⟩; obtain ⟨OM5, OD5, h5, _, _⟩ := H5.out; have HW5 := hid h5; clear h5 H5)
    | (go_at_call 16; refine (save1 HW2.out HT.out).mono ?_; rintro e w3 ⟨rfl, H3⟩; obtain ⟨OM3, OD3, h3, _, _⟩ := H3.out; have HW3 := hid h3; clear h3 H3)
    | (go_at_call 22; refine (step1 HW4.out).mono ?_; rintro e _ ⟨rfl, hw⟩; rw [hw]; clear hw)
    | (go_at_call 14; refine (late1 HW5.out).mono ?_; rintro e w6 ⟨a6, c6, rfl, H6⟩; have HW6 := hid (HW5.out.add H6.out.2))
    | (go_at_call 20; refine (HSm.out w6 a6 c6 _ H6.out.1).mono ?_; rintro e w7 ⟨rfl, hA7⟩; have HW7 := hid ((HW6.out.add ((Touch.refl _ w6).alloc _)).add hA7); clear hA7))
  go_ret
  exact ⟨rfl, HW9.out.adds⟩
end Go.Proofs.YtmmgfankbabfbaaDoor

/- Masters that are none. -/
namespace Go.Proofs.YtmmgfankbabfbaaDoor
open Go.RowKit
/-- A master that no call made. -/
def msZ : U.MS := ⟨0, ⟨0, []⟩, ⟨0, []⟩⟩
theorem msZ_ok : msZ.Ok := ⟨Nat.zero_le _, U.ok_nil, U.ok_nil⟩
abbrev ZM (w : World) (m : Nat) : Prop := IsMasV w (fun k => k = m) m (.pointer none) ⟨none, 0, []⟩ ⟨none, 0, []⟩ msZ
theorem ZM.adds {w w' : World} {m : Nat} (h : ZM w m) (hA : Adds w w') : ZM w' m := IsMasV.touch h hA (fun _ _ => id)
set_option maxRecDepth 100000 in
theorem zeroDiskU (w : World) : (Instr.build 48 #[]).run Tryd.prog w = .ok (.agg #[.int .i64 0, .map none, .slice none 0 0, .int .i64 0, .int .i64 0]) w := by kernel_rfl
set_option maxRecDepth 100000 in
theorem zeroMas (w : World) : (Instr.build 56 #[]).run Tryd.prog w = .ok (.agg #[.pointer none, .int .i64 0, .int .i64 0, .slice none 0 0, .int .i64 0, .slice none 0 0]) w := by kernel_rfl
theorem late_z {w : World} {m : Nat} (h : ZM w m) : Calls Tryd.prog 14 #[Ptr m] w (fun e w' => ∃ a cap, e = .returned (.tuple #[.slice a 0 cap, .int .i64 0, .bool false]) ∧ Hid (Adds w w')) :=
  (mlatest_any h msZ_ok).mono (by
    rintro e w' ⟨a, cap, he, H⟩
    exact ⟨a, cap, he, H.out.2⟩)
theorem late_n (w : World) : Calls Tryd.prog 14 #[.pointer none] w (fun e w' => ∃ a cap, e = .returned (.tuple #[.slice a 0 cap, .int .i64 0, .bool false]) ∧ Hid (Adds w w')) :=
  (mlatest_nil w).mono (by
    rintro e w' ⟨a, cap, he, H⟩
    exact ⟨a, cap, he, H.out.2⟩)
theorem slot_z {w : World} {m : Nat} (h : ZM w m) : Calls Tryd.prog 15 #[Ptr m] w (Adding (.int .i64 (-1)) w) := mslot_any h
set_option maxRecDepth 100000 in
set_option maxHeartbeats 2000000 in
theorem nobody10 (at_ : Int) (a : Option Addr) (n cap : Nat) (ep : Int) (w : World) (hT : Tab w) : Calls Tryd.prog 4 #[.int .i64 at_, .slice a n cap, .int .i64 ep] w (Adding (.bool true) w) := by
  have HW := hid (fun w' (hA : Adds w w') => works10 w' (hT.adds hA))
  have hzd := zeroDiskU
  have hzl := zeroMas
  clear hT
  go_enter Tryd.func4, Tryd.ntmps4
  go_wp2_with fail
  obtain ⟨w3, hw3⟩ : ∃ w3 : World, w3 = (w.alloc (.cells #[.int .i64 0, .map none, .slice none 0 0, .int .i64 0, .int .i64 0] 48)).alloc (.cells #[.pointer none, Ptr w.heap.size] 23) := ⟨_, rfl⟩
  rw [← hw3]
  have hA3 : Adds w w3 := by rw [hw3]; exact ((Touch.refl _ w).alloc _).alloc _
  have z0 : w3.cell? ⟨w.heap.size, 0, none⟩ = some (.int .i64 0) := by rw [hw3]; simp [go_sem]
  have s0 : w3.cell? ⟨w.heap.size + 1, 0, none⟩ = some (.pointer none) := by rw [hw3]; simp [go_sem]
  have s1 : w3.cell? ⟨w.heap.size + 1, 1, none⟩ = some (Ptr w.heap.size) := by rw [hw3]; simp [go_sem]
  clear hw3
  have HO0 := hid (fun w' => mopen_un none at_ w' (fun w'' _ => unmade_nil w''))
  have HO1 := hid (fun w' (hA : Adds w3 w') => mopen_un (some ⟨w.heap.size, 0, none⟩) at_ w' (fun w'' hA' => unmade_zero (below_adds (hA.trans hA') z0)))
  have HA3 := hid hA3
  have HS := hid (And.intro s0 s1)
  clear hA3 z0 s0 s1
  go_loopw [20] (fun t wr => ∃ k : Nat, k ≤ 2 ∧ t = .int .i64 k ∧ Hid (Adds w3 wr)) (fun t _ => 2 - (intOf t).toNat)
  case atStart => exact ⟨0, by omega, rfl, Touch.refl _ _⟩
  case round =>
    obtain ⟨k, hk, rfl, HI0⟩ := hrel
    obtain ⟨wz, hwz⟩ : ∃ wz, wz = wr := ⟨_, rfl⟩
    rw [← hwz] at HI0 ⊢
    clear hwz
    have s0 := below_adds HI0.out HS.out.1
    have s1 := below_adds HI0.out HS.out.2
    obtain rfl | rfl | rfl : k = 0 ∨ k = 1 ∨ k = 2 := by omega
    · go_wp2_with (first | (go_at_call 13; refine (HO0.out wz).mono ?_; rintro e w5 ⟨rfl, hA5⟩; have A5 := hid (HI0.out.trans hA5); clear hA5))
      go_roundw
      case rel => exact ⟨1, by omega, rfl, A5.out⟩
      case measure => simp [intOf]
    · go_wp2_with (first | (go_at_call 13; refine (HO1.out wz HI0.out).mono ?_; rintro e w5 ⟨rfl, hA5⟩; have A5 := hid (HI0.out.trans hA5); clear hA5))
      go_roundw
      case rel => exact ⟨2, by omega, rfl, A5.out⟩
      case measure => simp [intOf]
    · clear s0 s1
      go_wp2_with fail
      obtain ⟨w4, hw4⟩ : ∃ w4 : World, w4 = (wz.alloc (.cells #[.pointer none, .int .i64 0, .int .i64 0, .slice none 0 0, .int .i64 0, .slice none 0 0] 56)).alloc (.cells #[.pointer none, Ptr wz.heap.size] 32) := ⟨_, rfl⟩
      rw [← hw4]
      have HA4 : Hid (Adds w w4) := by rw [hw4]; exact ((HA3.out.trans HI0.out).alloc _).alloc _
      have HZ : Hid (ZM w4 wz.heap.size) := ⟨by rw [hw4]; exact heap_alloc2_old wz _ _, rfl, rfl, NQ.nil _ _, NQ.nil _ _, rfl⟩
      have q0 : w4.cell? ⟨wz.heap.size + 1, 0, none⟩ = some (.pointer none) := by rw [hw4]; simp [go_sem]
      have q1 : w4.cell? ⟨wz.heap.size + 1, 1, none⟩ = some (Ptr wz.heap.size) := by rw [hw4]; simp [go_sem]
      clear hw4
      go_loopw [41] (fun t wr => ∃ k : Nat, k ≤ 2 ∧ t = .int .i64 k ∧ Hid (Adds w4 wr)) (fun t _ => 2 - (intOf t).toNat)
      case atStart => exact ⟨0, by omega, rfl, Touch.refl _ _⟩
      case round =>
        obtain ⟨k, hk, rfl, HI⟩ := hrel
        have r0 := below_adds HI.out q0
        have r1 := below_adds HI.out q1
        have HZr := hid (HZ.out.adds HI.out)
        clear q0 q1
        obtain rfl | rfl | rfl : k = 0 ∨ k = 1 ∨ k = 2 := by omega
        · go_wp2_with (first
            | (go_at_call 14; refine (late_n wr).mono ?_; rintro e w6 ⟨a6, c6, rfl, A6⟩)
            | (go_at_call 15; refine (mslot_nil w6).mono ?_; rintro e w7 ⟨rfl, A7⟩)
            | (go_at_call 16; refine (msave_nil a n cap ep w7).mono ?_; rintro e w8 ⟨rfl, A8⟩))
          have HA8 := hid (((HI.out.trans A6.out).trans A7).trans A8)
          go_roundw
          case rel => exact ⟨_, _, _, _, _, _, _, _, _, _, _, _, _, _, _, _, _, _, _, _, _, _, _, _, _, _, _, _, _, _, _, _, _, _, _, _, _, _, ⟨1, by omega, rfl, HA8.out⟩, rfl⟩
          case measure => simp [intOf]
        · go_wp2_with (first
            | (go_at_call 14; refine (late_z HZr.out).mono ?_; rintro e w6 ⟨a6, c6, rfl, A6⟩; have HZ6 := hid (HZr.out.adds A6.out))
            | (go_at_call 15; refine (slot_z HZ6.out).mono ?_; rintro e w7 ⟨rfl, A7⟩; have HZ7 := hid (HZ6.out.adds A7))
            | (go_at_call 16; refine (msave_zero a n cap ep w7 HZ7.out msZ_ok).mono ?_; rintro e w8 ⟨rfl, A8⟩))
          have HA8 := hid (((HI.out.trans A6.out).trans A7).trans A8)
          go_roundw
          case rel => exact ⟨_, _, _, _, _, _, _, _, _, _, _, _, _, _, _, _, _, _, _, _, _, _, _, _, _, _, _, _, _, _, _, _, _, _, _, _, _, _, ⟨2, by omega, rfl, HA8.out⟩, rfl⟩
          case measure => simp [intOf]
        · go_wp2_with (first | (go_at_call 9; refine (HW.out wr (HA4.out.trans HI.out)).mono ?_; rintro e w9 ⟨rfl, hA9⟩))
          go_ret
          exact ⟨rfl, (HA4.out.trans HI.out).trans hA9⟩
end Go.Proofs.YtmmgfankbabfbaaDoor
