/- Texts put together: USlot, WDMath. -/
import Derived.Test.YtmmgfankbabfbaaDoorQ17
import Derived.Test.YtmmgfankbabfbaaDoorQ20
/- A master in memory: Slot, Latest, made, other. -/
namespace Go.Proofs.YtmmgfankbabfbaaDoor
open Go.RowKit

/-- A master m over the disk p: what is its own (O), its slots' fields x and y. -/
structure IsMasV (w : World) (O : Nat → Prop) (m : Nat) (pv : Value) (x y : NPart) (s : U.MS) : Prop where
  box : w.heap[m]? = some (.cells #[pv, .int .i64 (s.at_ : Int), .int .i64 (s.a.ep : Int), .slice x.a s.a.fs.length x.cap, .int .i64 (s.b.ep : Int), .slice y.a s.b.fs.length y.cap] 56 (0, 0))
  xs : x.ns = s.a.fs
  ys : y.ns = s.b.fs
  qx : NQ w (fun k => O k ∧ k ≠ m) x
  qy : NQ w (fun k => O k ∧ k ≠ m) y
  om : O m
def IsMas (w : World) (O : Nat → Prop) (m p : Nat) (s : U.MS) : Prop := ∃ x y, IsMasV w O m (Ptr p) x y s
theorem IsMasV.touch {w w' : World} {O T : Nat → Prop} {m : Nat} {pv : Value} {x y : NPart} {s : U.MS} (h : IsMasV w O m pv x y s) (hT : Touch T w w') (hn : ∀ k, O k → ¬ T k) : IsMasV w' O m pv x y s :=
  ⟨hT.at' h.box (hn m h.om), h.xs, h.ys, h.qx.touch hT (fun k q => hn k q.1), h.qy.touch hT (fun k q => hn k q.1), h.om⟩
set_option maxRecDepth 100000 in
theorem IsMas.touch {w w' : World} {O T : Nat → Prop} {m p : Nat} {s : U.MS} (h : IsMas w O m p s) (hT : Touch T w w') (hn : ∀ k, O k → ¬ T k) : IsMas w' O m p s := by
  obtain ⟨x, y, h⟩ := h
  exact ⟨x, y, h.touch hT hn⟩
theorem IsMas.adds {w w' : World} {O : Nat → Prop} {m p : Nat} {s : U.MS} (h : IsMas w O m p s) (hT : Adds w w') : IsMas w' O m p s := h.touch hT (fun _ _ => id)
set_option maxRecDepth 100000 in
theorem IsMas.mono {w : World} {O O' : Nat → Prop} {m p : Nat} {s : U.MS} (h : IsMas w O m p s) (hn : ∀ k, O k → O' k) : IsMas w O' m p s := by
  obtain ⟨x, y, h⟩ := h
  exact ⟨x, y, h.box, h.xs, h.ys, h.qx.mono (fun k _ q => ⟨hn k q.1, q.2⟩), h.qy.mono (fun k _ q => ⟨hn k q.1, q.2⟩), hn m h.om⟩
/-! ### Slot -/
set_option maxRecDepth 100000 in
theorem mslot_nil (w : World) : Calls Tryd.prog 15 #[.pointer none] w (Adding (.int .i64 (-1)) w) := by
  go_enter Tryd.func15, Tryd.ntmps15
  go_wp2_with fail
  go_ret
  exact ⟨rfl, Touch.refl _ _⟩
set_option maxRecDepth 100000 in
theorem mslot_at (m : Nat) (a b : Nat) (w : World) (c2 : w.cell? ⟨m, 2, none⟩ = some (.int .i64 (a : Int))) (c4 : w.cell? ⟨m, 4, none⟩ = some (.int .i64 (b : Int))) (z : Int) (hz : z = if a = 0 ∧ b = 0 then -1 else if a < b then 1 else 0) : Calls Tryd.prog 15 #[Ptr m] w (Adding (.int .i64 z) w) := by
  by_cases h0 : a = 0
  · subst h0
    by_cases h1 : b = 0
    · subst h1
      rw [if_pos ⟨rfl, rfl⟩] at hz
      subst hz
      go_enter Tryd.func15, Tryd.ntmps15
      go_wp2_with fail
      go_ret
      exact ⟨rfl, Touch.refl _ _⟩
    · rw [if_neg (fun c => h1 c.2), if_pos (by omega)] at hz
      subst hz
      have hb : (b == 0) = false := by simpa using h1
      have hb2 : ((b : Int) == 0) = false := by simpa using h1
      have hb3 : decide ((0 : Int) < (b : Int)) = true := by simp; omega
      have hb4 : decide (0 < b) = true := by simp; omega
      go_enter Tryd.func15, Tryd.ntmps15
      go_upto_region 3 with fail
      go_region
      go_wp2_with fail
      go_ret
      exact ⟨rfl, (Touch.refl _ w).drew⟩
  · rw [if_neg (fun c => h0 c.1)] at hz
    have ha : ((a : Int) == 0) = false := by simpa using h0
    have ha2 : (a == 0) = false := by simpa using h0
    by_cases h1 : a < b
    · rw [if_pos h1] at hz
      subst hz
      have hb : decide (a < b) = true := by simpa using h1
      go_enter Tryd.func15, Tryd.ntmps15
      go_upto_region 3 with fail
      go_region
      go_wp2_with fail
      go_ret
      exact ⟨rfl, (Touch.refl _ w).drew⟩
    · rw [if_neg h1] at hz
      subst hz
      have hb : decide (a < b) = false := by simpa using h1
      go_enter Tryd.func15, Tryd.ntmps15
      go_upto_region 3 with fail
      go_region
      go_wp2_with fail
      go_ret
      exact ⟨rfl, (Touch.refl _ w).drew⟩
theorem mslot_any {w : World} {O : Nat → Prop} {m : Nat} {pv : Value} {x y : NPart} {s : U.MS} (h : IsMasV w O m pv x y s) : Calls Tryd.prog 15 #[Ptr m] w (Adding (.int .i64 s.which) w) :=
  mslot_at m s.a.ep s.b.ep w (cellOf h.box 2) (cellOf h.box 4) s.which rfl
set_option maxRecDepth 100000 in
theorem mmade_nil (w : World) : Calls Tryd.prog 36 #[.pointer none] w (Tells (.bool false) w) := by
  go_enter Tryd.func36, Tryd.ntmps36
  go_wp2_with fail
  go_ret
  exact ⟨rfl, rfl⟩
set_option maxRecDepth 100000 in
theorem mmade_zero (m : Nat) (w : World) (c0 : w.cell? ⟨m, 0, none⟩ = some (.pointer none)) : Calls Tryd.prog 36 #[Ptr m] w (Tells (.bool false) w) := by
  go_enter Tryd.func36, Tryd.ntmps36
  go_wp2_with fail
  go_ret
  exact ⟨rfl, rfl⟩
set_option maxRecDepth 100000 in
theorem mmade_yes (m p : Nat) (w : World) (c0 : w.cell? ⟨m, 0, none⟩ = some (Ptr p)) : Calls Tryd.prog 36 #[Ptr m] w (Tells (.bool true) w) := by
  go_enter Tryd.func36, Tryd.ntmps36
  go_wp2_with fail
  go_ret
  exact ⟨rfl, rfl⟩
set_option maxRecDepth 100000 in
theorem mother_any {w : World} {O : Nat → Prop} {m : Nat} {pv : Value} {x y : NPart} {s : U.MS} (h : IsMasV w O m pv x y s) : Calls Tryd.prog 39 #[Ptr m] w (Adding (.int .i64 (s.other : Int)) w) := by
  have H := hid (mslot_any h)
  obtain ⟨z, hz⟩ : ∃ z, z = s.which := ⟨_, rfl⟩
  rw [← hz] at H
  by_cases h0 : z = 0
  · have HE := hid (show s.other = 1 by rw [U.MS.other, if_pos (by rw [← hz]; exact h0)])
    rw [HE.out]
    subst h0
    clear hz h
    go_enter Tryd.func39, Tryd.ntmps39
    go_wp2_with (first | (go_at_call 15; refine H.out.mono ?_; rintro e w1 ⟨rfl, hA1⟩; have A1 := hid hA1; clear hA1))
    go_ret
    exact ⟨rfl, A1.out⟩
  · have HE := hid (show s.other = 0 by rw [U.MS.other, if_neg (by rw [← hz]; exact h0)])
    rw [HE.out]
    clear hz h
    go_enter Tryd.func39, Tryd.ntmps39
    go_wp2_with (first | (go_at_call 15; refine H.out.mono ?_; rintro e w1 ⟨rfl, hA1⟩; have A1 := hid hA1; clear hA1))
    go_ret
    exact ⟨rfl, A1.out⟩
/-! ### Latest -/
def PLat (w : World) (s : U.Sl) (e : Ending) (w' : World) : Prop := ∃ a cap, e = .returned (.tuple #[.slice a s.fs.length cap, .int .i64 (s.ep : Int), .bool (decide (0 < s.ep))]) ∧ Hid (NQ w' (fun k => w.heap.size ≤ k) ⟨a, cap, s.fs⟩ ∧ Adds w w')
set_option maxRecDepth 100000 in
theorem mlatest_nil (w : World) : Calls Tryd.prog 14 #[.pointer none] w (PLat w ⟨0, []⟩) := by
  have H := hid (mslot_nil w)
  go_enter Tryd.func14, Tryd.ntmps14
  go_wp2_with (first | (go_at_call 15; refine H.out.mono ?_; rintro e w0 ⟨rfl, hA0⟩; have A0 := hid hA0; clear hA0))
  go_ret3
  exact ⟨none, 0, rfl, NQ.nil _ _, A0.out⟩
set_option maxRecDepth 100000 in
set_option maxHeartbeats 1000000 in
theorem mlatest_any {w : World} {O : Nat → Prop} {m : Nat} {pv : Value} {x y : NPart} {s : U.MS} (h : IsMasV w O m pv x y s) (hk : s.Ok) : Calls Tryd.prog 14 #[Ptr m] w (PLat w s.lat) := by
  have H := hid (mslot_any h)
  by_cases h0 : s.a.ep = 0 ∧ s.b.ep = 0
  · have e1 : s.which = -1 := by rw [U.MS.which, if_pos h0]
    have e2 : s.lat = ⟨0, []⟩ := by rw [U.MS.lat, if_pos h0]
    rw [e1] at H
    rw [e2]
    clear h h0 e1 e2 hk
    go_enter Tryd.func14, Tryd.ntmps14
    go_wp2_with (first | (go_at_call 15; refine H.out.mono ?_; rintro e w0 ⟨rfl, hA0⟩; have A0 := hid hA0; clear hA0))
    go_ret3
    exact ⟨none, 0, rfl, NQ.nil _ _, A0.out⟩
  · by_cases h1 : s.a.ep < s.b.ep
    · have e1 : s.which = 1 := by rw [U.MS.which, if_neg h0, if_pos h1]
      have e2 : s.lat = s.b := by rw [U.MS.lat, if_neg h0, if_pos h1]
      rw [e1] at H
      rw [e2]
      have hp : decide (0 < s.b.ep) = true := by simp; omega
      have HC := hid (fun w' (hA : Adds w w') => uclone_any y.a y.cap s.b.fs.length s.b.fs rfl w' (by have := hk.b.fit.len; omega) (by have q := h.qy.adds hA; rw [show y = ⟨y.a, y.cap, s.b.fs⟩ by rw [← h.ys]] at q; exact q))
      have H4 := hid (fun w' (hA : Adds w w') => show w'.cell? ⟨m, 4, none⟩ = some (.int .i64 (s.b.ep : Int)) from below_adds hA (cellOf h.box 4))
      have c5 : w.cell? ⟨m, 5, none⟩ = some (.slice y.a s.b.fs.length y.cap) := cellOf h.box 5
      have H5 := hid (fun w' (hA : Adds w w') => show w'.cell? ⟨m, 5, none⟩ = some (.slice y.a s.b.fs.length y.cap) from below_adds hA c5)
      have HP := hid hp
      generalize hn : s.b.fs.length = n at *
      clear h h0 h1 e1 e2 hp
      go_enter Tryd.func14, Tryd.ntmps14
      go_upto_region 4 with (first | (go_at_call 15; refine H.out.mono ?_; rintro e w0 ⟨rfl, hA0⟩; have A0 := hid hA0; have d4 := H4.out w0 hA0; have d5 := H5.out w0 hA0; clear hA0))
      go_region_with (go_at_call 35; refine (HC.out _ (by first | exact A0.out.drew | exact A0.out)).mono ?_; rintro e w1 ⟨a1, cap1, rfl, H1⟩; have A1 := hid (A0.out.drew.trans H1.out.2); have d41 := H4.out w1 A1.out)
      all_goals
        go_wp2_with fail
        go_ret3
        exact ⟨a1, cap1, by rw [HP.out, hn]; rfl, H1.out.1.mono (fun k _ q => Nat.le_trans A0.out.size q), A1.out⟩
    · have e1 : s.which = 0 := by rw [U.MS.which, if_neg h0, if_neg h1]
      have e2 : s.lat = s.a := by rw [U.MS.lat, if_neg h0, if_neg h1]
      rw [e1] at H
      rw [e2]
      have hp : decide (0 < s.a.ep) = true := by simp; omega
      have HC := hid (fun w' (hA : Adds w w') => uclone_any x.a x.cap s.a.fs.length s.a.fs rfl w' (by have := hk.a.fit.len; omega) (by have q := h.qx.adds hA; rw [show x = ⟨x.a, x.cap, s.a.fs⟩ by rw [← h.xs]] at q; exact q))
      have H2 := hid (fun w' (hA : Adds w w') => show w'.cell? ⟨m, 2, none⟩ = some (.int .i64 (s.a.ep : Int)) from below_adds hA (cellOf h.box 2))
      have c3 : w.cell? ⟨m, 3, none⟩ = some (.slice x.a s.a.fs.length x.cap) := cellOf h.box 3
      have H3 := hid (fun w' (hA : Adds w w') => show w'.cell? ⟨m, 3, none⟩ = some (.slice x.a s.a.fs.length x.cap) from below_adds hA c3)
      have HP := hid hp
      generalize hn : s.a.fs.length = n at *
      clear h h0 h1 e1 e2 hp
      go_enter Tryd.func14, Tryd.ntmps14
      go_upto_region 4 with (first | (go_at_call 15; refine H.out.mono ?_; rintro e w0 ⟨rfl, hA0⟩; have A0 := hid hA0; have d2 := H2.out w0 hA0; have d3 := H3.out w0 hA0; clear hA0))
      go_region_with (go_at_call 35; refine (HC.out _ (by first | exact A0.out.drew | exact A0.out)).mono ?_; rintro e w1 ⟨a1, cap1, rfl, H1⟩; have A1 := hid (A0.out.drew.trans H1.out.2); have d21 := H2.out w1 A1.out)
      all_goals
        go_wp2_with fail
        go_ret3
        exact ⟨a1, cap1, by rw [HP.out, hn]; rfl, H1.out.1.mono (fun k _ q => Nat.le_trans A0.out.size q), A1.out⟩
end Go.Proofs.YtmmgfankbabfbaaDoor

/- Writes that a disk takes, one behind the other. -/
namespace Go.Proofs.YtmmgfankbabfbaaDoor

/-- k writes, from number i on. -/
def wroteN (D : dSt) (f : Nat → Int × List UInt8) (i : Nat) : Nat → dSt
  | 0 => D
  | k + 1 => (wroteN D f i k).wrote (f (i + k)).1 (f (i + k)).2
theorem wroteN_W (D : dSt) (f : Nat → Int × List UInt8) (i : Nat) : ∀ k, (wroteN D f i k).W = D.W ++ (List.range k).map (fun j => f (i + j))
  | 0 => by simp [wroteN]
  | k + 1 => by
    show (wroteN D f i k).W ++ [((f (i + k)).1, (f (i + k)).2)] = _
    rw [wroteN_W D f i k, List.range_succ, List.map_append, List.append_assoc]; rfl
theorem wroteN_H (D : dSt) (f : Nat → Int × List UInt8) (i : Nat) : ∀ k, (wroteN D f i k).H = D.H
  | 0 => rfl
  | k + 1 => wroteN_H D f i k
theorem wroteN_size (D : dSt) (f : Nat → Int × List UInt8) (i : Nat) : ∀ k, (wroteN D f i k).size = D.size
  | 0 => rfl
  | k + 1 => wroteN_size D f i k
theorem wroteN_steps (D : dSt) (f : Nat → Int × List UInt8) (i : Nat) : ∀ k, (wroteN D f i k).steps = D.steps + k
  | 0 => by simp [wroteN]
  | k + 1 => by
    show (wroteN D f i k).steps + 1 = _
    rw [wroteN_steps D f i k]; omega
theorem wroteN_uncut {D : dSt} (f : Nat → Int × List UInt8) (i : Nat) (h : D.left = -1) : ∀ k, (wroteN D f i k).left = -1
  | 0 => h
  | k + 1 => by
    show less (wroteN D f i k).left = _
    rw [wroteN_uncut f i h k]; rfl
theorem wroteN_cut {D : dSt} (f : Nat → Int × List UInt8) (i : Nat) : ∀ k : Nat, (k : Int) ≤ D.left → (wroteN D f i k).left = D.left - k
  | 0, _ => by simp [wroteN]
  | k + 1, h => by
    show less (wroteN D f i k).left = _
    rw [wroteN_cut f i k (by omega), less, if_pos (by omega)]; omega
theorem wroteN_shift (D : dSt) (f : Nat → Int × List UInt8) (i : Nat) : ∀ k, wroteN (D.wrote (f i).1 (f i).2) f (i + 1) k = wroteN D f i (k + 1)
  | 0 => rfl
  | k + 1 => by
    show (wroteN (D.wrote (f i).1 (f i).2) f (i + 1) k).wrote (f (i + 1 + k)).1 (f (i + 1 + k)).2 = (wroteN D f i (k + 1)).wrote (f (i + (k + 1))).1 (f (i + (k + 1))).2
    rw [wroteN_shift D f i k, show i + 1 + k = i + (k + 1) by omega]
/-- All writes, and the sync. -/
theorem goW_all {f : Nat → Int × List UInt8} : ∀ {r i : Nat} {D : dSt}, (D.left = -1 ∨ (r : Int) < D.left) → goW f r i D = (0, (wroteN D f i r).synced)
  | 0, i, D, h => by
    rw [goW, if_neg (by omega)]; rfl
  | r + 1, i, D, h => by
    rw [goW, if_neg (by omega), goW_all (r := r) (i := i + 1), wroteN_shift]
    show less D.left = -1 ∨ (r : Int) < less D.left
    unfold less
    rcases h with h | h
    · rw [h]; exact .inl rfl
    · rw [if_pos (by omega)]; exact .inr (by omega)
set_option maxRecDepth 100000 in
/-- The power goes off on the way. -/
theorem goW_cut {f : Nat → Int × List UInt8} : ∀ {r i : Nat} {D : dSt}, 0 ≤ D.left → D.left ≤ r → goW f r i D = (10, wroteN D f i D.left.toNat)
  | 0, i, D, h0, h1 => by
    have h : D.left = 0 := by omega
    rw [goW, if_pos h, h]; rfl
  | r + 1, i, D, h0, h1 => by
    by_cases h : D.left = 0
    · rw [goW, if_pos h, h]; rfl
    · have hl : (D.wrote (f i).1 (f i).2).left = D.left - 1 := by
        show less D.left = _
        unfold less; rw [if_pos (by omega)]
      rw [goW, if_neg h, goW_cut (r := r) (i := i + 1) (by rw [hl]; omega) (by rw [hl]; omega), hl, wroteN_shift]
      rw [show (D.left - 1).toNat + 1 = D.left.toNat by omega]
end Go.Proofs.YtmmgfankbabfbaaDoor
