/- Texts put together: UOpen, UOver. -/
import Derived.Test.YtcablnjhfocogaaDoorQ34
import Derived.Test.YtcablnjhfocogaaDoorQ35
/- A master is opened. -/
namespace Go.Proofs.YtcablnjhfocogaaDoor
open Go.RowKit
set_option maxRecDepth 100000 in
theorem build_mas (q : Option Addr) (z : Int) (w : World) : (Instr.build 37 #[(0, .pointer q), (1, .int .i64 z)]).run Tryd.prog w = .ok (.agg #[.pointer q, .int .i64 z, .int .i64 0, .slice none 0 0, .int .i64 0, .slice none 0 0]) w := by kernel_rfl
set_option maxRecDepth 100000 in
theorem mopen_un (q : Option Addr) (at_ : Int) (w : World) (hu : ∀ w', Adds w w' → Unmade w' (.pointer q)) : Calls Tryd.prog 6 #[.pointer q, .int .i64 at_] w (Adding (.tuple #[.pointer none, .int .i64 1]) w) := by
  have hb := fun q z w => build_mas q z w
  have H := hid (fun w' (hA : Adds w w') => size_un (.pointer q) w' (hu w' hA))
  clear hu
  go_enter Tryd.func6, Tryd.ntmps6
  go_wp2_with (first | (go_at_call 15; refine (H.out _ ((Touch.refl _ w).alloc _)).mono ?_; rintro e _ ⟨rfl, hw⟩; rw [hw]; clear hw))
  go_ret2
  exact ⟨rfl, (Touch.refl _ w).alloc _⟩
/-- What Open tells. -/
def PMas (w : World) (p : Nat) (s : U.MS) (e : Ending) (w' : World) : Prop := ∃ m, e = .returned (.tuple #[Ptr m, .int .i64 0]) ∧ Hid (IsMas w' (fun k => w.heap.size ≤ k ∧ k < w'.heap.size) m p s ∧ Adds w w')
def msAt (D : dSt) (at_ : Nat) : U.MS := ⟨at_, U.slot (secOf D at_ 0), U.slot (secOf D at_ 1)⟩
set_option maxRecDepth 100000 in
theorem mopen_bad {w : World} {O : Nat → Prop} {p : Nat} {D : dSt} {n0 : Nat} (hD : IsDO w O p D) (hk : DOk D n0) (at_ : Int) (h6 : D.size ≤ 4096) (hb : at_ < 0 ∨ D.size - 2 < at_) : Calls Tryd.prog 6 #[Ptr p, .int .i64 at_] w (Adding (.tuple #[.pointer none, .int .i64 2]) w) := by
  have hbm := fun q z w => build_mas q z w
  obtain ⟨hb', wv, hd, _⟩ := hD
  obtain ⟨sz, hsz⟩ : ∃ sz, sz = D.size := ⟨_, rfl⟩
  have hs0 := hk.size
  have H := hid (fun w' (hA : Adds w w') => show Calls Tryd.prog 15 #[Ptr p] w' (fun e w'' => e = .returned (.int .i64 sz) ∧ w'' = w') by rw [hsz]; exact size_any p D.size w' (below_adds hA (cellOf hd.box 0)) hs0)
  rw [← hsz] at h6 hb hs0
  have d0 : (sz == 0) = false := beq_eq_false_iff_ne.2 (by omega)
  clear hd hsz hk
  by_cases h1 : at_ < 0
  · have d1 : decide (at_ < 0) = true := by simpa using h1
    clear hb h1
    go_enter Tryd.func6, Tryd.ntmps6
    go_wp2_with (first | (go_at_call 15; refine (H.out _ ((Touch.refl _ w).alloc _)).mono ?_; rintro e _ ⟨rfl, hw⟩; rw [hw]; clear hw))
    go_ret2
    exact ⟨rfl, (Touch.refl _ w).alloc _⟩
  · have d1 : decide (at_ < 0) = false := by simpa using h1
    have d2 : decide (sz - 2 < at_) = true := by simpa using hb.resolve_left h1
    clear hb h1
    go_enter Tryd.func6, Tryd.ntmps6
    go_wp2_with (first | (go_at_call 15; refine (H.out _ ((Touch.refl _ w).alloc _)).mono ?_; rintro e _ ⟨rfl, hw⟩; rw [hw]; clear hw))
    go_ret2
    exact ⟨rfl, (Touch.refl _ w).alloc _⟩
/-- The slots so far. -/
def msN (D : dSt) (a k : Nat) : U.MS := ⟨a, if 0 < k then U.slot (secOf D a 0) else ⟨0, []⟩, if 1 < k then U.slot (secOf D a 1) else ⟨0, []⟩⟩
theorem msN_two (D : dSt) (a : Nat) : msN D a 2 = msAt D a := rfl
set_option maxRecDepth 100000 in
/-- One slot is stored. -/
theorem mas_set {w w' : World} {O : Nat → Prop} {m : Nat} {pv : Value} {x y z : NPart} {s s' : U.MS} {sl : U.Sl} {i : Nat} (h : IsMasV w O m pv x y s) (hi : i < 2) (hs : s' = s.put i sl) (hz : z.ns = sl.fs) (hq : NQ w (fun k => O k ∧ k ≠ m) z)
    (hw : w' = (w.setCell ⟨m, 2 + 2 * i, none⟩ (.int .i64 (sl.ep : Int))).setCell ⟨m, 2 + 2 * i + 1, none⟩ (.slice z.a sl.fs.length z.cap)) : ∃ x' y', IsMasV w' O m pv x' y' s' ∧ Touch (fun k => k = m) w w' := by
  have hT : Touch (fun k => k = m) w w' := by rw [hw]; exact Touch.setCell (T := fun k => k = m) (Touch.setCell (T := fun k => k = m) (Touch.refl _ w) (p := ⟨m, 2 + 2 * i, none⟩) (fun _ => rfl) _) (p := ⟨m, 2 + 2 * i + 1, none⟩) (fun _ => rfl) _
  have hb : w'.heap[m]? = some (.cells ((#[pv, .int .i64 (s.at_ : Int), .int .i64 (s.a.ep : Int), .slice x.a s.a.fs.length x.cap, .int .i64 (s.b.ep : Int), .slice y.a s.b.fs.length y.cap].setIfInBounds (2 + 2 * i) (.int .i64 (sl.ep : Int))).setIfInBounds (2 + 2 * i + 1) (.slice z.a sl.fs.length z.cap)) 37 (0, 0)) := by
    rw [hw]
    exact heap_setCell_same _ m (2 + 2 * i + 1) _ 37 _ (heap_setCell_same w m (2 + 2 * i) _ 37 _ h.box)
  have hn : ∀ k, (O k ∧ k ≠ m) → ¬ k = m := fun k q => q.2
  match i, hi with
  | 0, _ => exact ⟨z, y, ⟨by rw [hb, hs]; rfl, by rw [hs]; exact hz, by rw [hs]; exact h.ys, hq.touch hT hn, h.qy.touch hT hn, h.om⟩, hT⟩
  | 1, _ => exact ⟨x, z, ⟨by rw [hb, hs]; rfl, by rw [hs]; exact h.xs, by rw [hs]; exact hz, h.qx.touch hT hn, hq.touch hT hn, h.om⟩, hT⟩
set_option maxRecDepth 100000 in
set_option maxHeartbeats 2000000 in
theorem mopen_ok {w : World} {O : Nat → Prop} {p : Nat} {D : dSt} {n0 : Nat} (hD : IsDO w O p D) (hk : DOk D n0) (hn0 : n0 ≤ 900) (hT : Tab w) (a : Nat) (h3 : (a : Int) + 2 ≤ D.size) (h6 : D.size ≤ 4096) (hon : D.left ≠ 0) :
    Calls Tryd.prog 6 #[Ptr p, .int .i64 (a : Int)] w (PMas w p (msAt D a)) := by
  have hbm := fun q z w => build_mas q z w
  have HR := hid (fun w' (hA : Adds w w') (k : Nat) (hk2 : k < 2) (z : Int) (hz : z = ((a + k : Nat) : Int)) => show Calls Tryd.prog 16 #[Ptr p, .int .i64 z] w' (PSec w' (secOf D a k)) by
    rw [hz]
    exact dread_any (hD.adds hA) hk hn0 hon _ (by omega))
  have HS := hid (fun w' (hA : Adds w w') (g cap : Nat) (s : List UInt8) (hl : s.length = 256) (hAt : At w' (some ⟨g, 0, none⟩) s) => stand_any g cap s w' hl hAt (hT.adds hA))
  obtain ⟨hb', wv, hd, _⟩ := hD
  obtain ⟨sz, hsz⟩ : ∃ sz, sz = D.size := ⟨_, rfl⟩
  have hs0 := hk.size
  have HSz := hid (fun w' (hA : Adds w w') => show Calls Tryd.prog 15 #[Ptr p] w' (fun e w'' => e = .returned (.int .i64 sz) ∧ w'' = w') by rw [hsz]; exact size_any p D.size w' (below_adds hA (cellOf hd.box 0)) hs0)
  rw [← hsz] at h6 h3 hs0
  have d0 : (sz == 0) = false := beq_eq_false_iff_ne.2 (by omega)
  have d1 : decide ((a : Int) < 0) = false := by simp
  have d2 : decide (sz - 2 < (a : Int)) = false := by simp; omega
  have ha : a ≤ 4096 := by omega
  clear hd hsz hk hon hT h3
  go_enter Tryd.func6, Tryd.ntmps6
  go_wp2_with (first | (go_at_call 15; refine (HSz.out _ ((Touch.refl _ w).alloc _)).mono ?_; rintro e _ ⟨rfl, hw⟩; rw [hw]; clear hw))
  clear d0 d1 d2 hs0 h6
  go_loopw [28] (fun i wr => ∃ k : Nat, k ≤ 2 ∧ i = .int .i64 (k : Int) ∧ Hid ((∃ x y, IsMasV wr (fun j => w.heap.size ≤ j) w.heap.size (Ptr p) x y (msN D a k)) ∧ Adds w wr)) (fun i _ => 2 - (intOf i).toNat)
  case atStart => exact ⟨0, Nat.zero_le _, rfl, ⟨⟨none, 0, []⟩, ⟨none, 0, []⟩, heap_alloc_new w _, rfl, rfl, NQ.nil _ _, NQ.nil _ _, Nat.le_refl _⟩, (Touch.refl _ w).alloc _⟩
  case round =>
    obtain ⟨k, hk, rfl, HI⟩ := hrel
    by_cases hlt : k < 2
    · obtain ⟨x, y, hM⟩ := HI.out.1
      have HM := hid hM
      clear hM
      obtain rfl | rfl : k = 0 ∨ k = 1 := by omega
      · go_upto_region 12 with (first | (go_at_call 16; refine (HR.out wr HI.out.2 0 (by decide) _ (by omega)).mono ?_; rintro e w2 ⟨g2, cap2, rfl, H2⟩))
        have HA2 := hid (HI.out.2.trans H2.out.2.2)
        go_region_with (go_at_call 17; refine (HS.out w2.drew HA2.out.drew g2 cap2 _ H2.out.2.1 (H2.out.1.adds (Touch.refl _ w2).drew)).mono ?_; rintro e w3 ⟨a3, cap3, rfl, H3⟩; have hM3 := HM.out.touch (H2.out.2.2.drew.trans H3.out.2) (fun _ _ => id); have M3 := hid hM3; have c2 := cellOf hM3.box 2; have c3 := cellOf hM3.box 3; have f2 := frozen_of_row w3 _ 2 _ 37 hM3.box; have f3 := frozen_of_row w3 _ 3 _ 37 hM3.box; clear hM3)
        go_wp2_with fail
        go_roundw
        case rel =>
          have hs1 := lt_of_heap HM.out.box
          have hs2 := H2.out.2.2.size
          obtain ⟨x', y', h1, h2⟩ := mas_set (i := 0) (z := ⟨a3, cap3, (U.slot (secOf D a 0)).fs⟩) (sl := U.slot (secOf D a 0)) M3.out (by decide) (show msN D a 1 = _ from rfl) rfl (H3.out.1.mono (fun j _ q => by have q' : w2.heap.size ≤ j := q; exact ⟨by omega, by omega⟩)) rfl
          exact ⟨1, by omega, by go_num, ⟨x', y', h1⟩, (HA2.out.drew.trans H3.out.2).then h2 (fun j hj e => by omega)⟩
        case measure => simp [intOf]
      · go_upto_region 12 with (first | (go_at_call 16; refine (HR.out wr HI.out.2 1 (by decide) _ (by omega)).mono ?_; rintro e w2 ⟨g2, cap2, rfl, H2⟩))
        have HA2 := hid (HI.out.2.trans H2.out.2.2)
        go_region_with (go_at_call 17; refine (HS.out w2.drew HA2.out.drew g2 cap2 _ H2.out.2.1 (H2.out.1.adds (Touch.refl _ w2).drew)).mono ?_; rintro e w3 ⟨a3, cap3, rfl, H3⟩; have hM3 := HM.out.touch (H2.out.2.2.drew.trans H3.out.2) (fun _ _ => id); have M3 := hid hM3; have c4 := cellOf hM3.box 4; have c5 := cellOf hM3.box 5; have f4 := frozen_of_row w3 _ 4 _ 37 hM3.box; have f5 := frozen_of_row w3 _ 5 _ 37 hM3.box; clear hM3)
        go_wp2_with fail
        go_roundw
        case rel =>
          have hs1 := lt_of_heap HM.out.box
          have hs2 := H2.out.2.2.size
          obtain ⟨x', y', h1, h2⟩ := mas_set (i := 1) (z := ⟨a3, cap3, (U.slot (secOf D a 1)).fs⟩) (sl := U.slot (secOf D a 1)) M3.out (by decide) (show msN D a 2 = _ from rfl) rfl (H3.out.1.mono (fun j _ q => by have q' : w2.heap.size ≤ j := q; exact ⟨by omega, by omega⟩)) rfl
          exact ⟨2, by omega, by go_num, ⟨x', y', h1⟩, (HA2.out.drew.trans H3.out.2).then h2 (fun j hj e => by omega)⟩
        case measure => simp [intOf]
    · obtain rfl : k = 2 := by omega
      go_wp2_with fail
      go_ret2
      obtain ⟨x, y, hM⟩ := HI.out.1
      refine ⟨w.heap.size, rfl, ⟨x, y, ?_⟩, HI.out.2⟩
      exact ⟨hM.box, hM.xs, hM.ys, hM.qx.mono (fun j hj q => ⟨⟨q.1, hj⟩, q.2⟩), hM.qy.mono (fun j hj q => ⟨⟨q.1, hj⟩, q.2⟩), Nat.le_refl _, lt_of_heap hM.box⟩
end Go.Proofs.YtcablnjhfocogaaDoor

/- One sector is written over another one. -/
namespace Go.Proofs.YtcablnjhfocogaaDoor
open Go.RowKit
set_option maxRecDepth 100000 in
theorem makeU (n : Nat) (h : n ≤ 1000) (w : World) : (Instr.makeSlice 59 (.int .i64 (n : Int)) (.int .i64 (n : Int))).run Tryd.prog w = .ok (.slice (some ⟨w.heap.size, 0, none⟩) n n) (w.alloc (.cells (S (List.replicate n 0)).toArray 5)) := by
  obtain ⟨i0, hi, hz0, hz1, hz2⟩ := info5all
  have q := run_make (P := Tryd.prog) w 59 5 i0 (.int .u8 0) Tryd.underlying59 hi hz0 .i64 .i64 n n (by omega) (by omega) (by rw [hz2]; omega) (by omega)
  rw [q, hz1]
  simp only [madeCells, S, Int.toNat_natCast, Nat.mul_one]
  congr 3
  apply Array.ext
  · simp
  · intro i h1 h2; simp [Value.cells, Nat.mod_one]; rfl
theorem makeZ (w : World) : (Instr.makeSlice 59 (.int .i64 256) (.int .i64 256)).run Tryd.prog w = .ok (.slice (some ⟨w.heap.size, 0, none⟩) 256 256) (w.alloc (.cells (S (List.replicate 256 0)).toArray 5)) := makeU 256 (by decide) w
set_option maxRecDepth 100000 in
theorem at_alloc (w : World) (bs : List UInt8) : At (w.alloc (.cells (S bs).toArray 5)) (some ⟨w.heap.size, 0, none⟩) bs := by
  intro j c hj
  refine ⟨_, _, rfl, ?_⟩
  rw [Nat.zero_add, cellOf (heap_alloc_new w _), List.getElem?_toArray, S_get, hj]; rfl
/-- What may be written over. -/
def Ground (old young : List UInt8) : Prop := (M.oErr old = 0 ∧ M.oMark old ≠ M.oMark young) ∨ old = List.replicate 256 0
set_option maxRecDepth 100000 in
set_option maxHeartbeats 2000000 in
theorem ground_yes (g1 c1 g2 c2 : Nat) (old young : List UInt8) (w : World) (h1 : old.length = 256) (h2 : young.length = 256) (hA1 : At w (some ⟨g1, 0, none⟩) old) (hA2 : At w (some ⟨g2, 0, none⟩) young) (hT : Tab w) (hg : Ground old young) :
    Calls Tryd.prog 45 #[.slice (some ⟨g1, 0, none⟩) 256 c1, .slice (some ⟨g2, 0, none⟩) 256 c2] w (Adding (.bool true) w) := by
  have HO1 := hid (show Calls Tryd.prog 33 #[.slice (some ⟨g1, 0, none⟩) 256 c1] w (PSOpen w old) by
    have q := sopen_any (some ⟨g1, 0, none⟩) old c1 w (fun e => by cases e) hA1 hT
    rw [h1] at q
    exact q)
  have HO2 := hid (fun w' (h : Adds w w') => show Calls Tryd.prog 33 #[.slice (some ⟨g2, 0, none⟩) 256 c2] w' (PSOpen w' young) by
    have q := sopen_any (some ⟨g2, 0, none⟩) young c2 w' (fun e => by cases e) (hA2.adds h) (hT.adds h)
    rw [h2] at q
    exact q)
  unfold PSOpen at HO1 HO2
  have HEq := hid (fun w' (h : Adds w w') (e : old = List.replicate 256 0) => show Calls Tryd.prog 61 #[.slice (some ⟨g1, 0, none⟩) 256 c1, .slice (some ⟨w'.heap.size, 0, none⟩) 256 256] (w'.alloc (.cells (S (List.replicate 256 0)).toArray 5)) (Tells (.bool true) (w'.alloc (.cells (S (List.replicate 256 0)).toArray 5))) by
    have q := equal_any (some ⟨g1, 0, none⟩) old c1 (some ⟨w'.heap.size, 0, none⟩) (List.replicate 256 0) 256 (w'.alloc (.cells (S (List.replicate 256 0)).toArray 5)) ((hA1.adds h).adds ((Touch.refl _ w').alloc _)) (at_alloc w' _)
    rw [h1, decide_eq_true e, List.length_replicate] at q
    exact q)
  have hmk := fun w => makeZ w
  have HG := hid hg
  clear hA1 hA2 hT h1 h2
  by_cases h0 : M.oErr old = 0
  · by_cases hm : M.oMark old = M.oMark young
    · exfalso
      rcases hg with c | c
      · exact c.2 hm
      · rw [c, M.noughts_err] at h0; cases h0
    · rw [h0] at HO1
      clear hg HG h0
      generalize M.oMark old = m1 at *
      generalize M.oMark young = m2 at *
      generalize M.oErr young = e2 at *
      generalize (M.oKind old).toNat = k1 at *
      generalize (M.oKind young).toNat = k2 at *
      have hm1 : ¬ (m1 : Int) = (m2 : Int) := by omega
      have hm2 : (m1 != m2) = true := by simpa using hm
      have hm3 : ((m1 : Int) != (m2 : Int)) = true := by simpa using hm1
      go_enter Tryd.func45, Tryd.ntmps45
      go_wp2_with (first
        | (go_at_call 33; have MX := MX; refine (HO2.out w1 A1.out).mono ?_; rintro e w2 ⟨av2, cv2, rfl, _, hA2⟩; have A2 := hid (A1.out.trans hA2); clear hA2)
        | (go_at_call 33; refine HO1.out.mono ?_; rintro e w1 ⟨av1, cv1, rfl, _, hA1⟩; have A1 := hid hA1; have MX := hid trivial; clear hA1))
      go_ret
      exact ⟨rfl, A2.out⟩
  · have hz : old = List.replicate 256 0 := by
      rcases hg with c | c
      · exact absurd c.1 h0
      · exact c
    have HZ := hid hz
    clear hg HG hz
    generalize M.oMark old = m1 at *
    generalize M.oMark young = m2 at *
    generalize M.oErr young = e2 at *
    generalize M.oErr old = e1 at *
    generalize (M.oKind old).toNat = k1 at *
    generalize (M.oKind young).toNat = k2 at *
    have h01 : ¬ (e1 : Int) = 0 := by omega
    have h02 : ((e1 : Int) == 0) = false := by simpa using h01
    have h03 : (e1 == 0) = false := by simpa using h0
    go_enter Tryd.func45, Tryd.ntmps45
    go_wp2_with (first
      | (go_at_call 33; have MX := MX; refine (HO2.out w1 A1.out).mono ?_; rintro e w2 ⟨av2, cv2, rfl, _, hA2⟩; have A2 := hid (A1.out.trans hA2); clear hA2)
      | (go_at_call 33; refine HO1.out.mono ?_; rintro e w1 ⟨av1, cv1, rfl, _, hA1⟩; have A1 := hid hA1; have MX := hid trivial; clear hA1)
      | (go_at_call 61; refine (HEq.out w2 A2.out HZ.out).mono ?_; rintro e _ ⟨rfl, hw⟩; rw [hw]; clear hw))
    go_ret
    exact ⟨rfl, A2.out.alloc _⟩
set_option maxRecDepth 100000 in
theorem dread_off {w : World} {O : Nat → Prop} {p : Nat} {D : dSt} {n : Nat} (h : IsDO w O p D) (hk : DOk D n) (hon : D.left = 0) (i : Int) (hi : 0 ≤ i ∧ i < D.size) : Calls Tryd.prog 16 #[Ptr p, .int .i64 i] w (Tells (.tuple #[.slice none 0 0, .int .i64 10]) w) := by
  obtain ⟨hb, wv, hd, h1, h2, h3⟩ := h
  refine (read_off p D.size i w (cellOf hd.box 0) (by rw [cellOf hd.box 4, hon]; rfl) hk.size hi).mono ?_
  rintro e w' ⟨he, hw⟩
  exact ⟨he, hw⟩
/-- What a write of one sector leaves. -/
def PWh (w : World) (O : Nat → Prop) (p : Nat) (x : Int × dSt) (e : Ending) (w' : World) : Prop := e = .returned (.int .i64 x.1) ∧ Hid (∃ O', IsDO w' O' p x.2 ∧ Touch O w w' ∧ ∀ k, O' k → O k ∨ (w.heap.size ≤ k ∧ k < w'.heap.size))
set_option maxRecDepth 100000 in
theorem over_off {w : World} {O : Nat → Prop} {p : Nat} {D : dSt} {n : Nat} (h : IsDO w O p D) (hk : DOk D n) (hon : D.left = 0) (i : Int) (hi : 0 ≤ i ∧ i < D.size) (hi2 : D.size ≤ 4096) (b g c : Nat) (hc : w.cell? ⟨b, 0, none⟩ = some (.slice (some ⟨g, 0, none⟩) 256 c)) :
    Calls Tryd.prog 23 #[Ptr p, .int .i64 i, .slice (some ⟨b, 0, none⟩) 1 1] w (PWh w O p (10, D)) := by
  have HR := hid (fun z (hz : z = i) => show Calls Tryd.prog 16 #[Ptr p, .int .i64 z] w (Tells (.tuple #[.slice none 0 0, .int .i64 10]) w) by rw [hz]; exact dread_off h hk hon i hi)
  have HD := hid h
  have hib : 0 ≤ i ∧ i ≤ 4096 := by omega
  clear h hk hon hi hi2
  go_enter Tryd.func23, Tryd.ntmps23
  go_wp2_with fail
  go_loopw [7, 19] (fun bv i wr => bv = .bool true ∧ i = .int .i64 0 ∧ wr = w) (fun _ _ _ => 0)
  case atStart => exact ⟨rfl, rfl, rfl⟩
  case round =>
    obtain ⟨rfl, rfl, rfl⟩ := hrel
    go_wp2_with (first | (go_at_call 16; refine (HR.out _ (by first | rfl | omega)).mono ?_; rintro e _ ⟨rfl, hw⟩; rw [hw]; clear hw))
    go_ret
    exact ⟨rfl, O, HD.out, Touch.refl _ _, fun _ c => .inl c⟩
set_option maxRecDepth 100000 in
set_option maxHeartbeats 2000000 in
theorem over_on {w : World} {O : Nat → Prop} {p : Nat} {D : dSt} {n : Nat} (h : IsDO w O p D) (hk : DOk D n) (hn : n ≤ 800) (hon : D.left ≠ 0) (i : Int) (hi : 0 ≤ i ∧ i < D.size) (hi2 : D.size ≤ 4096) (b g c : Nat) (hc : w.cell? ⟨b, 0, none⟩ = some (.slice (some ⟨g, 0, none⟩) 256 c)) (young : List UInt8) (hS : Sec w g young) (hT : Tab w) (hG : Ground (hasOf D.H D.W i) young) (x : Int × dSt) (hx : x = if (D.wrote i young).left = 0 then (10, D.wrote i young) else (0, (D.wrote i young).synced)) :
    Calls Tryd.prog 23 #[Ptr p, .int .i64 i, .slice (some ⟨b, 0, none⟩) 1 1] w (PWh w O p x) := by
  have HR := hid (fun z (hz : z = i) => show Calls Tryd.prog 16 #[Ptr p, .int .i64 z] w (PSec w (hasOf D.H D.W i)) by rw [hz]; exact dread_any h hk (by omega) hon i hi)
  have HGr := hid (fun w' (hA : Adds w w') (g1 c1 : Nat) (hl : (hasOf D.H D.W i).length = 256) (hAt : At w' (some ⟨g1, 0, none⟩) (hasOf D.H D.W i)) => ground_yes g1 c1 g c _ young w' hl hS.len hAt ((hS.adds hA).at) (hT.adds hA) hG)
  have HWr := hid (fun w' (hA : Adds w w') z (hz : z = i) => show Calls Tryd.prog 46 #[Ptr p, .int .i64 z, .slice (some ⟨g, 0, none⟩) 256 c] w' (PWo w' O p 0 (D.wrote i young)) by rw [hz]; exact dwrite_ok (h.adds hA) hk (by omega) i hi hon g c young (hS.adds hA))
  have HSy := hid (fun w' O' (h' : IsDO w' O' p (D.wrote i young)) => show Calls Tryd.prog 48 #[Ptr p] w' (PWr w' O' p x) by rw [hx]; exact dsync_any h' (hk.wrote i young) (by omega))
  have HC := hid (fun w' (hA : Adds w w') => below_adds hA hc)
  have hib : 0 ≤ i ∧ i ≤ 4096 := by omega
  obtain ⟨xe, xd⟩ := x
  clear h hk hon hi hi2 hS hT hG hx
  go_enter Tryd.func23, Tryd.ntmps23
  go_wp2_with fail
  go_loopw [7, 19] (fun bv i wr => bv = .bool true ∧ ∃ k : Nat, k ≤ 1 ∧ i = .int .i64 (k : Int) ∧ Hid (Adds w wr) ∧ (k = 0 → wr = w)) (fun _ i _ => 1 - (intOf i).toNat)
  case atStart => exact ⟨rfl, 0, Nat.zero_le _, rfl, Touch.refl _ _, fun _ => rfl⟩
  case round =>
    obtain ⟨rfl, k, hk1, rfl, HI, hI2⟩ := hrel
    obtain rfl | rfl : k = 0 ∨ k = 1 := by omega
    · obtain rfl := hI2 rfl
      clear hI2 HI
      go_wp2_with (first
        | (go_at_call 16; refine (HR.out _ (by first | rfl | omega)).mono ?_; rintro e w1 ⟨g1, c1, rfl, H1⟩)
        | (go_at_call 45; refine (HGr.out w1 H1.out.2.2 g1 c1 H1.out.2.1 H1.out.1).mono ?_; rintro e w2 ⟨rfl, hA2⟩; have A2 := hid (H1.out.2.2.trans hA2); clear hA2))
      go_roundw
      case rel => exact ⟨rfl, 1, Nat.le_refl _, by go_num, A2.out, fun c => by cases c⟩
      case measure => simp [intOf]
    · clear hI2
      have hc1 := HC.out wr HI.out
      obtain ⟨wq, hwq⟩ : ∃ wq, wq = wr := ⟨_, rfl⟩
      rw [← hwq] at HI hc1 ⊢
      clear hwq
      go_wp2_with fail
      go_loopw [59] (fun iv wr => ∃ k : Nat, k ≤ 1 ∧ iv = .int .i64 (k : Int) ∧ (k = 0 → wr = wq) ∧ (k = 1 → Hid (∃ O', IsDO wr O' p (D.wrote i young) ∧ Touch O w wr ∧ ∀ k, O' k → O k ∨ (w.heap.size ≤ k ∧ k < wr.heap.size)))) (fun i _ => 1 - (intOf i).toNat)
      case atStart => exact ⟨0, Nat.zero_le _, rfl, fun _ => rfl, fun c => by cases c⟩
      case round =>
        obtain ⟨k, hk1, rfl, h0, h1⟩ := hrel
        obtain rfl | rfl : k = 0 ∨ k = 1 := by omega
        · obtain rfl := h0 rfl
          clear h0 h1
          go_wp2_with (first
            | (go_at_call 46; refine (HWr.out _ HI.out _ (by first | rfl | omega)).mono ?_; rintro e w3 ⟨rfl, H3⟩))
          go_roundw
          case rel =>
            obtain ⟨O', hD, hT, hO, _⟩ := H3.out
            have hs := HI.out.size
            refine ⟨_, _, _, _, _, _, _, _, _, _, _, _, _, _, _, _, _, _, _, ⟨1, Nat.le_refl _, by go_num, (fun c => absurd c (by decide)), fun _ => ⟨O', hD, (HI.out.mono (fun _ _ c => c.elim)).trans hT, fun k q => (hO k q).imp id (fun c => ⟨by omega, c.2⟩)⟩⟩, rfl⟩
          case measure => simp [intOf]
        · obtain ⟨O', hD, hT, hO⟩ := (h1 rfl).out
          have H2 := hid (And.intro hD (And.intro hT hO))
          clear h0 h1 hD hT hO
          go_wp2_with (first
            | (go_at_call 48; refine (HSy.out _ O' H2.out.1).mono ?_; rintro e w4 ⟨rfl, hq4⟩; have H4 := hid hq4; clear hq4))
          go_ret
          obtain ⟨O4, hD4, hT4, hO4⟩ := H4.out
          have hs := H2.out.2.1.size
          have hs4 := hT4.size
          refine ⟨rfl, O4, hD4, H2.out.2.1.then hT4 (fun k hk c => ?_), fun k q => ?_⟩
          · rcases H2.out.2.2 k c with d | d
            · exact d
            · omega
          · rcases hO4 k q with d | d
            · rcases H2.out.2.2 k d with d' | d'
              · exact .inl d'
              · exact .inr ⟨d'.1, by omega⟩
            · exact .inr ⟨by omega, d.2⟩
set_option maxRecDepth 100000 in
/-- One sector, written and synced, wherever the disk is cut. -/
theorem over_any {w : World} {O : Nat → Prop} {p : Nat} {D : dSt} {n : Nat} (h : IsDO w O p D) (hk : DOk D n) (hn : n ≤ 800) (i : Int) (hi : 0 ≤ i ∧ i < D.size) (hi2 : D.size ≤ 4096) (b g c : Nat) (hc : w.cell? ⟨b, 0, none⟩ = some (.slice (some ⟨g, 0, none⟩) 256 c)) (young : List UInt8) (hS : Sec w g young) (hT : Tab w) (hG : Ground (hasOf D.H D.W i) young) :
    Calls Tryd.prog 23 #[Ptr p, .int .i64 i, .slice (some ⟨b, 0, none⟩) 1 1] w (PWh w O p (goW (fun _ => (i, young)) 1 0 D)) := by
  by_cases hon : D.left = 0
  · rw [goW, if_pos hon]
    exact over_off h hk hon i hi hi2 b g c hc
  · rw [goW, if_neg hon]
    exact over_on h hk hn hon i hi hi2 b g c hc young hS hT hG _ rfl
end Go.Proofs.YtcablnjhfocogaaDoor
