/- Texts put together: UOpen, UOver. -/
import Derived.Test.YtmmgfankbabfbaaDoorQ23
import Derived.Test.YtmmgfankbabfbaaDoorQ24
/- A master is opened. -/
namespace Go.Proofs.YtmmgfankbabfbaaDoor
open Go.RowKit
set_option maxRecDepth 100000 in
theorem build_mas (q : Option Addr) (z : Int) (w : World) : (Instr.build 56 #[(0, .pointer q), (1, .int .i64 z)]).run Tryd.prog w = .ok (.agg #[.pointer q, .int .i64 z, .int .i64 0, .slice none 0 0, .int .i64 0, .slice none 0 0]) w := by kernel_rfl
set_option maxRecDepth 100000 in
theorem mopen_un (q : Option Addr) (at_ : Int) (w : World) (hu : ∀ w', Adds w w' → Unmade w' (.pointer q)) : Calls Tryd.prog 13 #[.pointer q, .int .i64 at_] w (Adding (.tuple #[.pointer none, .int .i64 1]) w) := by
  have hb := fun q z w => build_mas q z w
  have H := hid (fun w' (hA : Adds w w') => size_un (.pointer q) w' (hu w' hA))
  clear hu
  go_enter Tryd.func13, Tryd.ntmps13
  go_wp2_with (first | (go_at_call 33; refine (H.out _ ((Touch.refl _ w).alloc _)).mono ?_; rintro e _ ⟨rfl, hw⟩; rw [hw]; clear hw))
  go_ret2
  exact ⟨rfl, (Touch.refl _ w).alloc _⟩
/-- What Open tells. -/
def PMas (w : World) (p : Nat) (s : U.MS) (e : Ending) (w' : World) : Prop := ∃ m, e = .returned (.tuple #[Ptr m, .int .i64 0]) ∧ Hid (IsMas w' (fun k => w.heap.size ≤ k ∧ k < w'.heap.size) m p s ∧ Adds w w')
def msAt (D : dSt) (at_ : Nat) : U.MS := ⟨at_, U.slot (secOf D at_ 0), U.slot (secOf D at_ 1)⟩
set_option maxRecDepth 100000 in
theorem mopen_bad {w : World} {O : Nat → Prop} {p : Nat} {D : dSt} {n0 : Nat} (hD : IsDO w O p D) (hk : DOk D n0) (at_ : Int) (h6 : D.size ≤ 4096) (hb : at_ < 0 ∨ D.size - 2 < at_) : Calls Tryd.prog 13 #[Ptr p, .int .i64 at_] w (Adding (.tuple #[.pointer none, .int .i64 2]) w) := by
  have hbm := fun q z w => build_mas q z w
  obtain ⟨hb', wv, hd, _⟩ := hD
  obtain ⟨sz, hsz⟩ : ∃ sz, sz = D.size := ⟨_, rfl⟩
  have hs0 := hk.size
  have H := hid (fun w' (hA : Adds w w') => show Calls Tryd.prog 33 #[Ptr p] w' (fun e w'' => e = .returned (.int .i64 sz) ∧ w'' = w') by rw [hsz]; exact size_any p D.size w' (below_adds hA (cellOf hd.box 0)) hs0)
  rw [← hsz] at h6 hb hs0
  have d0 : (sz == 0) = false := beq_eq_false_iff_ne.2 (by omega)
  clear hd hsz hk
  by_cases h1 : at_ < 0
  · have d1 : decide (at_ < 0) = true := by simpa using h1
    clear hb h1
    go_enter Tryd.func13, Tryd.ntmps13
    go_wp2_with (first | (go_at_call 33; refine (H.out _ ((Touch.refl _ w).alloc _)).mono ?_; rintro e _ ⟨rfl, hw⟩; rw [hw]; clear hw))
    go_ret2
    exact ⟨rfl, (Touch.refl _ w).alloc _⟩
  · have d1 : decide (at_ < 0) = false := by simpa using h1
    have d2 : decide (sz - 2 < at_) = true := by simpa using hb.resolve_left h1
    clear hb h1
    go_enter Tryd.func13, Tryd.ntmps13
    go_wp2_with (first | (go_at_call 33; refine (H.out _ ((Touch.refl _ w).alloc _)).mono ?_; rintro e _ ⟨rfl, hw⟩; rw [hw]; clear hw))
    go_ret2
    exact ⟨rfl, (Touch.refl _ w).alloc _⟩
/-- The slots so far. -/
def msN (D : dSt) (a k : Nat) : U.MS := ⟨a, if 0 < k then U.slot (secOf D a 0) else ⟨0, []⟩, if 1 < k then U.slot (secOf D a 1) else ⟨0, []⟩⟩
theorem msN_two (D : dSt) (a : Nat) : msN D a 2 = msAt D a := rfl
set_option maxRecDepth 100000 in
/-- One slot is stored. -/
theorem mas_set {w w' : World} {O : Nat → Prop} {m : Nat} {pv : Value} {x y z : NPart} {s s' : U.MS} {sl : U.Sl} {i : Nat} (h : IsMasV w O m pv x y s) (hi : i < 2) (hs : s' = s.put i sl) (hz : z.ns = sl.fs) (hq : NQ w (fun k => O k ∧ k ≠ m) z)
    (hw : w' = (w.setCell ⟨m, 2 + 2 * i, none⟩ (.int .i64 (sl.ep : Int))).setCell ⟨m, 2 + 2 * i + 1, none⟩ (.slice z.a sl.fs.length z.cap)) : ∃ x' y', IsMasV w' O m pv x' y' s' ∧ Touch (fun k => k = m) w w' := by
  have hT : Touch (fun k => k = m) w w' := by rw [hw]; exact Touch.setCell (T := fun k => k = m) (Touch.setCell (T := fun k => k = m) (Touch.refl _ w) (p := ⟨m, 2 + 2 * i, none⟩) (fun _ => rfl) _) (p := ⟨m, 2 + 2 * i + 1, none⟩) (fun _ => rfl) _
  have hb : w'.heap[m]? = some (.cells ((#[pv, .int .i64 (s.at_ : Int), .int .i64 (s.a.ep : Int), .slice x.a s.a.fs.length x.cap, .int .i64 (s.b.ep : Int), .slice y.a s.b.fs.length y.cap].setIfInBounds (2 + 2 * i) (.int .i64 (sl.ep : Int))).setIfInBounds (2 + 2 * i + 1) (.slice z.a sl.fs.length z.cap)) 56 (0, 0)) := by
    rw [hw]
    exact heap_setCell_same _ m (2 + 2 * i + 1) _ 56 _ (heap_setCell_same w m (2 + 2 * i) _ 56 _ h.box)
  have hn : ∀ k, (O k ∧ k ≠ m) → ¬ k = m := fun k q => q.2
  match i, hi with
  | 0, _ => exact ⟨z, y, ⟨by rw [hb, hs]; rfl, by rw [hs]; exact hz, by rw [hs]; exact h.ys, hq.touch hT hn, h.qy.touch hT hn, h.om⟩, hT⟩
  | 1, _ => exact ⟨x, z, ⟨by rw [hb, hs]; rfl, by rw [hs]; exact h.xs, by rw [hs]; exact hz, h.qx.touch hT hn, hq.touch hT hn, h.om⟩, hT⟩
set_option maxRecDepth 100000 in
set_option maxHeartbeats 2000000 in
theorem mopen_ok {w : World} {O : Nat → Prop} {p : Nat} {D : dSt} {n0 : Nat} (hD : IsDO w O p D) (hk : DOk D n0) (hn0 : n0 ≤ 900) (hT : Tab w) (a : Nat) (h3 : (a : Int) + 2 ≤ D.size) (h6 : D.size ≤ 4096) (hon : D.left ≠ 0) :
    Calls Tryd.prog 13 #[Ptr p, .int .i64 (a : Int)] w (PMas w p (msAt D a)) := by
  have hbm := fun q z w => build_mas q z w
  have HR := hid (fun w' (hA : Adds w w') (k : Nat) (hk2 : k < 2) (z : Int) (hz : z = ((a + k : Nat) : Int)) => show Calls Tryd.prog 31 #[Ptr p, .int .i64 z] w' (PSec w' (secOf D a k)) by
    rw [hz]
    exact dread_any (hD.adds hA) hk hn0 hon _ (by omega))
  have HS := hid (fun w' (hA : Adds w w') (g cap : Nat) (s : List UInt8) (hl : s.length = 256) (hAt : At w' (some ⟨g, 0, none⟩) s) => stand_any g cap s w' hl hAt (hT.adds hA))
  obtain ⟨hb', wv, hd, _⟩ := hD
  obtain ⟨sz, hsz⟩ : ∃ sz, sz = D.size := ⟨_, rfl⟩
  have hs0 := hk.size
  have HSz := hid (fun w' (hA : Adds w w') => show Calls Tryd.prog 33 #[Ptr p] w' (fun e w'' => e = .returned (.int .i64 sz) ∧ w'' = w') by rw [hsz]; exact size_any p D.size w' (below_adds hA (cellOf hd.box 0)) hs0)
  rw [← hsz] at h6 h3 hs0
  have d0 : (sz == 0) = false := beq_eq_false_iff_ne.2 (by omega)
  have d1 : decide ((a : Int) < 0) = false := by simp
  have d2 : decide (sz - 2 < (a : Int)) = false := by simp; omega
  have ha : a ≤ 4096 := by omega
  clear hd hsz hk hon hT h3
  go_enter Tryd.func13, Tryd.ntmps13
  go_wp2_with (first | (go_at_call 33; refine (HSz.out _ ((Touch.refl _ w).alloc _)).mono ?_; rintro e _ ⟨rfl, hw⟩; rw [hw]; clear hw))
  clear d0 d1 d2 hs0 h6
  go_loopw [28] (fun i wr => ∃ k : Nat, k ≤ 2 ∧ i = .int .i64 (k : Int) ∧ Hid ((∃ x y, IsMasV wr (fun j => w.heap.size ≤ j) w.heap.size (Ptr p) x y (msN D a k)) ∧ Adds w wr)) (fun i _ => 2 - (intOf i).toNat)
  case atStart => exact ⟨0, Nat.zero_le _, rfl, ⟨⟨none, 0, []⟩, ⟨none, 0, []⟩, heap_alloc_new w _, rfl, rfl, NQ.nil _ _, NQ.nil _ _, Nat.le_refl _⟩, (Touch.refl _ w).alloc _⟩
  case round =>
    obtain ⟨k, hk, rfl, HI⟩ := hrel
    by_cases hlt : k < 2
    · obtain ⟨x, y, hM⟩ := HI.out.1
      have HM := hid hM
      clear hM
      obtain rfl | rfl : k = 0 ∨ k = 1 := by omega
      · go_upto_region 12 with (first | (go_at_call 31; refine (HR.out wr HI.out.2 0 (by decide) _ (by omega)).mono ?_; rintro e w2 ⟨g2, cap2, rfl, H2⟩))
        have HA2 := hid (HI.out.2.trans H2.out.2.2)
        go_region_with (go_at_call 34; refine (HS.out w2.drew HA2.out.drew g2 cap2 _ H2.out.2.1 (H2.out.1.adds (Touch.refl _ w2).drew)).mono ?_; rintro e w3 ⟨a3, cap3, rfl, H3⟩; have hM3 := HM.out.touch (H2.out.2.2.drew.trans H3.out.2) (fun _ _ => id); have M3 := hid hM3; have c2 := cellOf hM3.box 2; have c3 := cellOf hM3.box 3; have f2 := frozen_of_row w3 _ 2 _ 56 hM3.box; have f3 := frozen_of_row w3 _ 3 _ 56 hM3.box; clear hM3)
        go_wp2_with fail
        go_roundw
        case rel =>
          have hs1 := lt_of_heap HM.out.box
          have hs2 := H2.out.2.2.size
          obtain ⟨x', y', h1, h2⟩ := mas_set (i := 0) (z := ⟨a3, cap3, (U.slot (secOf D a 0)).fs⟩) (sl := U.slot (secOf D a 0)) M3.out (by decide) (show msN D a 1 = _ from rfl) rfl (H3.out.1.mono (fun j _ q => by have q' : w2.heap.size ≤ j := q; exact ⟨by omega, by omega⟩)) rfl
          exact ⟨1, by omega, by go_num, ⟨x', y', h1⟩, (HA2.out.drew.trans H3.out.2).then h2 (fun j hj e => by omega)⟩
        case measure => simp [intOf]
      · go_upto_region 12 with (first | (go_at_call 31; refine (HR.out wr HI.out.2 1 (by decide) _ (by omega)).mono ?_; rintro e w2 ⟨g2, cap2, rfl, H2⟩))
        have HA2 := hid (HI.out.2.trans H2.out.2.2)
        go_region_with (go_at_call 34; refine (HS.out w2.drew HA2.out.drew g2 cap2 _ H2.out.2.1 (H2.out.1.adds (Touch.refl _ w2).drew)).mono ?_; rintro e w3 ⟨a3, cap3, rfl, H3⟩; have hM3 := HM.out.touch (H2.out.2.2.drew.trans H3.out.2) (fun _ _ => id); have M3 := hid hM3; have c4 := cellOf hM3.box 4; have c5 := cellOf hM3.box 5; have f4 := frozen_of_row w3 _ 4 _ 56 hM3.box; have f5 := frozen_of_row w3 _ 5 _ 56 hM3.box; clear hM3)
        go_wp2_with fail
        go_roundw
        case rel =>
          have hs1 := lt_of_heap HM.out.box
          have hs2 := H2.out.2.2.size
          obtain ⟨x', y', h1, h2⟩ := mas_set (i := 1) (z := ⟨a3, cap3, (U.slot (secOf D a 1)).fs⟩) (sl := U.slot (secOf D a 1)) M3.out (by decide) (show msN D a 2 = _ from rfl) rfl (H3.out.1.mono (fun j _ q => by have q' : w2.heap.size ≤ j := q; exact ⟨by omega, by omega⟩)) rfl
          exact ⟨2, by omega, by go_num, ⟨x', y', h1⟩, (HA2.out.drew.trans H3.out.2).then h2 (fun j hj e => by omega)⟩
        case measure => simp [intOf]
    · obtain rfl : k = 2 := by omega
      go_wp2_with fail
      go_ret2
      obtain ⟨x, y, hM⟩ := HI.out.1
      refine ⟨w.heap.size, rfl, ⟨x, y, ?_⟩, HI.out.2⟩
      exact ⟨hM.box, hM.xs, hM.ys, hM.qx.mono (fun j hj q => ⟨⟨q.1, hj⟩, q.2⟩), hM.qy.mono (fun j hj q => ⟨⟨q.1, hj⟩, q.2⟩), Nat.le_refl _, lt_of_heap hM.box⟩
end Go.Proofs.YtmmgfankbabfbaaDoor

/- A disk without power is read; what a write of one sector leaves. -/
namespace Go.Proofs.YtmmgfankbabfbaaDoor
open Go.RowKit
set_option maxRecDepth 100000 in
theorem dread_off {w : World} {O : Nat → Prop} {p : Nat} {D : dSt} {n : Nat} (h : IsDO w O p D) (hk : DOk D n) (hon : D.left = 0) (i : Int) (hi : 0 ≤ i ∧ i < D.size) : Calls Tryd.prog 31 #[Ptr p, .int .i64 i] w (Tells (.tuple #[.slice none 0 0, .int .i64 10]) w) := by
  obtain ⟨hb, wv, hd, h1, h2, h3⟩ := h
  refine (read_off p D.size i w (cellOf hd.box 0) (by rw [cellOf hd.box 4, hon]; rfl) hk.size hi).mono ?_
  rintro e w' ⟨he, hw⟩
  exact ⟨he, hw⟩
/-- What a write of one sector, or a Sync, leaves. -/
def PWh (w : World) (O : Nat → Prop) (p : Nat) (x : Int × dSt) (e : Ending) (w' : World) : Prop := e = .returned (.int .i64 x.1) ∧ Hid (∃ O', IsDO w' O' p x.2 ∧ Touch O w w' ∧ ∀ k, O' k → O k ∨ (w.heap.size ≤ k ∧ k < w'.heap.size))
set_option maxRecDepth 100000 in
theorem dwrite_all {w : World} {O : Nat → Prop} {p : Nat} {D : dSt} {n : Nat} (h : IsDO w O p D) (hk : DOk D n) (hn : n ≤ 900) (i : Int) (hi : 0 ≤ i ∧ i < D.size) (g c : Nat) (bs : List UInt8) (hs : Sec w g bs) :
    Calls Tryd.prog 40 #[Ptr p, .int .i64 i, .slice (some ⟨g, 0, none⟩) 256 c] w (PWh w O p (if D.left = 0 then (10, D) else (0, D.wrote i bs))) := by
  by_cases hon : D.left = 0
  · rw [if_pos hon]
    refine (dwrite_off h hk i hi hon (some ⟨g, 0, none⟩) c).mono ?_
    rintro e w' ⟨he, hh⟩
    obtain ⟨O', h1, h2, h3, _⟩ := hh.out
    exact ⟨he, O', h1, h2, h3⟩
  · rw [if_neg hon]
    refine (dwrite_ok h hk hn i hi hon g c bs hs).mono ?_
    rintro e w' ⟨he, hh⟩
    obtain ⟨O', h1, h2, h3, _⟩ := hh.out
    exact ⟨he, O', h1, h2, h3⟩
set_option maxRecDepth 100000 in
theorem PWh.next {w w1 w2 : World} {O O1 : Nat → Prop} {p : Nat} {x : Int × dSt} {e : Ending} (hT : Touch O w w1) (hO : ∀ k, O1 k → O k ∨ (w.heap.size ≤ k ∧ k < w1.heap.size)) (h : PWr w1 O1 p x e w2) : PWh w O p x e w2 := by
  obtain ⟨he, O', h1, h2, h3⟩ := h
  have hs := hT.size
  have hs2 := h2.size
  refine ⟨he, O', h1, hT.then h2 (fun k hk c => ?_), fun k c => ?_⟩
  · rcases hO k c with d | d
    · exact d
    · omega
  · rcases h3 k c with d | d
    · rcases hO k d with d' | d'
      · exact .inl d'
      · exact .inr ⟨d'.1, by omega⟩
    · exact .inr ⟨by omega, d.2⟩
end Go.Proofs.YtmmgfankbabfbaaDoor
