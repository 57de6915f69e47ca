/- Values compared. -/
import Derived.Test.YtkkmbpcmkhikkaaCmp
import Derived.Deep.DeepFit
import Derived.Deep.DeepCutAuto
import Derived.BigQuiet
namespace Go.Proofs.Ytkkmbpcmkhikkaa
open Go.RowKit

theorem Box.off {w : World} {p q j : Nat} {u : M.V} (h : Box w p u) (hne : p ≠ q) (x : Value) : Box (w.setCell ⟨q, j, none⟩ x) p u := by
  unfold Box
  rw [Below.heap_setCell _ _ _ _ hne]; exact h
theorem Box.store {w : World} {p : Nat} {u : M.V} (h : Box w p u) (v : M.V) :
    Box ((((w.setCell ⟨p, 0, none⟩ (.int .i64 v.k)).setCell ⟨p, 1, none⟩ (.int .i64 v.n)).setCell ⟨p, 2, none⟩ (.float .f64 v.b)).setCell ⟨p, 3, none⟩ (.string ⟨v.t.toArray⟩)) p v :=
  heap_setCell_same _ p 3 _ 47 _ (heap_setCell_same _ p 2 _ 47 _ (heap_setCell_same _ p 1 _ 47 _ (heap_setCell_same _ p 0 _ 47 _ h)))
theorem Box.boxed {w w' : World} (u v : M.V) (hA : Adds ((w.alloc (.cells #[.int .i64 u.k, .int .i64 u.n, .float .f64 u.b, .string ⟨u.t.toArray⟩] 47)).alloc (.cells #[.int .i64 v.k, .int .i64 v.n, .float .f64 v.b, .string ⟨v.t.toArray⟩] 47)) w') :
    Box w' w.heap.size u ∧ Box w' (w.heap.size + 1) v := by
  refine ⟨((Box.fresh w u).adds (alloc_adds _ _)).adds hA, ?_⟩
  have h := Box.fresh (w.alloc (.cells #[.int .i64 u.k, .int .i64 u.n, .float .f64 u.b, .string ⟨u.t.toArray⟩] 47)) v
  simp only [World.size_alloc] at h
  exact h.adds hA
theorem set8 {w w' : World} {a1 a2 a3 a4 b1 b2 b3 b4 : Value} (p q : Nat) (hp : w.heap.size ≤ p) (hq : w.heap.size ≤ q) (h : Adds w w') :
    Adds w ((((((((w'.setCell ⟨p, 0, none⟩ a1).setCell ⟨p, 1, none⟩ a2).setCell ⟨p, 2, none⟩ a3).setCell ⟨p, 3, none⟩ a4).setCell ⟨q, 0, none⟩ b1).setCell ⟨q, 1, none⟩ b2).setCell ⟨q, 2, none⟩ b3).setCell ⟨q, 3, none⟩ b4) :=
  have no : ∀ {x : Nat}, w.heap.size ≤ x → x < w.heap.size → False := fun h1 h2 => by omega
  (((((((h.setCell (no hp) _).setCell (no hp) _).setCell (no hp) _).setCell (no hp) _).setCell (no hq) _).setCell (no hq) _).setCell (no hq) _).setCell (no hq) _
theorem hst (w : World) (a : Addr) (x : Nat) (m : Mode) : (store a (.float .f64 x) m).run Try.prog w = stored Try.prog w a (.float .f64 x) m := run_store _ _ _ _ _ rfl
/-- The one form of a value whose fields are told. -/
theorem plain_at (k n : Int) (b : Nat) (t : List UInt8) (w : World) : Calls Try.prog 42 #[.agg #[.int .i64 k, .int .i64 n, .float .f64 b, .string ⟨t.toArray⟩]] w (fun e w' => e = .returned (VV (M.plain ⟨k, n, b, t⟩)) ∧ Adds w w') := plain_any ⟨k, n, b, t⟩ w
set_option maxHeartbeats 2000000 in
theorem cmp_any (u v : M.V) (w : World) : Calls Try.prog 26 #[VV u, VV v] w (Tells w (.int .i64 (M.cmp u v))) := by
  have hs := hst
  have HB := hid (fun (w' : World) hA => Box.boxed (w := w) (w' := w') u v hA)
  unfold VV
  go_enter Try.func26, Try.ntmps26
  go_upto_region 1 with fail
  go_cut [] from 5 to 9 (fun wx => Hid (Box wx w.heap.size (M.plain u) ∧ Box wx (w.heap.size + 1) (M.plain v) ∧ Adds w wx))
  case first =>
    go_region_with (first
      | (go_at_call 42; refine (plain_at _ _ _ _ _).mono ?_; rintro e w2 ⟨rfl, hA⟩; have A2 := hid (A1.out.trans hA); obtain ⟨b1, b2⟩ := HB.out _ A2.out; have c0 := cellOf b1 0; have c1 := cellOf b1 1; have c2 := cellOf b1 2; have c3 := cellOf b1 3; have f0 := frozen_of_row w2 _ 0 _ 47 b1; have f1 := frozen_of_row w2 _ 1 _ 47 b1; have f2 := frozen_of_row w2 _ 2 _ 47 b1; have f3 := frozen_of_row w2 _ 3 _ 47 b1; have d0 := cellOf b2 0; have d1 := cellOf b2 1; have d2 := cellOf b2 2; have d3 := cellOf b2 3; have g0 := frozen_of_row w2 _ 0 _ 47 b2; have g1 := frozen_of_row w2 _ 1 _ 47 b2; have g2 := frozen_of_row w2 _ 2 _ 47 b2; have g3 := frozen_of_row w2 _ 3 _ 47 b2; have B1 := hid b1; have B2 := hid b2; clear b1 b2; simp at c0 c1 c2 c3 d0 d1 d2 d3; clear hA; unfold VV)
      | (go_at_call 42; refine (plain_at _ _ _ _ _).mono ?_; rintro e w1 ⟨rfl, hA⟩; have A1 := hid (Touch.trans ((Touch.refl _ _).drew) hA); obtain ⟨b1, b2⟩ := HB.out _ A1.out; have c0 := cellOf b1 0; have c1 := cellOf b1 1; have c2 := cellOf b1 2; have c3 := cellOf b1 3; have f0 := frozen_of_row w1 _ 0 _ 47 b1; have f1 := frozen_of_row w1 _ 1 _ 47 b1; have f2 := frozen_of_row w1 _ 2 _ 47 b1; have f3 := frozen_of_row w1 _ 3 _ 47 b1; have d0 := cellOf b2 0; have d1 := cellOf b2 1; have d2 := cellOf b2 2; have d3 := cellOf b2 3; have g0 := frozen_of_row w1 _ 0 _ 47 b2; have g1 := frozen_of_row w1 _ 1 _ 47 b2; have g2 := frozen_of_row w1 _ 2 _ 47 b2; have g3 := frozen_of_row w1 _ 3 _ 47 b2; have B1 := hid b1; have B2 := hid b2; clear b1 b2; simp at c0 c1 c2 c3 d0 d1 d2 d3; clear hA; unfold VV))
    all_goals (go_wp2_with fail; go_meet)
    all_goals exact ⟨((((B1.out.store (M.plain u)).off (by omega) _).off (by omega) _).off (by omega) _).off (by omega) _, ((((B2.out.off (by omega) _).off (by omega) _).off (by omega) _).off (by omega) _).store (M.plain v), set8 w.heap.size (w.heap.size + 1) (Nat.le_refl _) (by omega) ((((Touch.refl _ w).alloc _).alloc _).trans A2.out)⟩
  case rest =>
    clear HB hs
    have HE := hid (show M.cmp u v = M.pcmp (M.plain u) (M.plain v) from rfl)
    have c0 := cellOf hcut.out.1 0
    have c1 := cellOf hcut.out.1 1
    have c2 := cellOf hcut.out.1 2
    have c3 := cellOf hcut.out.1 3
    have d0 := cellOf hcut.out.2.1 0
    have d1 := cellOf hcut.out.2.1 1
    have d2 := cellOf hcut.out.2.1 2
    have d3 := cellOf hcut.out.2.1 3
    have HA := hid hcut.out.2.2
    simp at c0 c1 c2 c3 d0 d1 d2 d3
    clear hcut
    generalize M.plain u = u' at *
    generalize M.plain v = v' at *
    obtain ⟨k, n, b, t⟩ := u'
    obtain ⟨k', n', b', t'⟩ := v'
    simp only at c0 c1 c2 c3 d0 d1 d2 d3
    by_cases hk : k = k'
    · subst hk
      by_cases k3 : k = 3
      · subst k3
        have HF := hid (show M.cmp u v = M.fcmp b b' by rw [HE.out]; rfl)
        go_wp2_with (first | (go_at_call 43; refine (cmpFloats_any _ _ _).mono ?_; rintro e w' ⟨rfl, hw⟩; obtain rfl := hw.symm))
        go_ret
        exact ⟨by rw [HF.out]; rfl, HA.out⟩
      · by_cases k4 : k = 4
        · subst k4
          have HF := hid (show M.cmp u v = M.tcmp t t' by rw [HE.out]; rfl)
          go_wp2_with (first | (go_at_call 44; refine (cmp45 _ _ _).mono ?_; rintro e w' ⟨rfl, hw⟩; obtain rfl := hw.symm))
          go_ret
          exact ⟨by rw [HF.out]; rfl, HA.out⟩
        · have HF := hid (show M.cmp u v = M.cmp3 n n' by rw [HE.out]; simp [M.pcmp, k3, k4])
          go_wp2_with (first | (go_at_call 45; refine (cmp46 _ _ _).mono ?_; rintro e w' ⟨rfl, hw⟩; obtain rfl := hw.symm))
          go_ret
          exact ⟨by rw [HF.out]; rfl, HA.out⟩
    · have HF := hid (show M.cmp u v = M.cmp3 k k' by rw [HE.out]; simp [M.pcmp, hk])
      have hk2 : (k != k') = true := by simpa using hk
      clear hk
      go_wp2_with (first | (go_at_call 41; refine (cmp43 _ _ _).mono ?_; rintro e w' ⟨rfl, hw⟩; obtain rfl := hw.symm))
      go_ret
      exact ⟨by rw [HF.out]; rfl, HA.out⟩
end Go.Proofs.Ytkkmbpcmkhikkaa
