/- Texts put together: GQ1, GQ2, GQ3, GQ4, KMath. -/
import Derived.Test.YtjlennpoaefllaaGreatDoorQ33
import Derived.Test.YtjlennpoaefllaaGreatDoorQ35
import Derived.Maps.AppendAt
import Derived.Test.YtjlennpoaefllaaGreatDoorQ34
/- The reference's space of one map: Size, put. -/
namespace Go.Proofs.YtjlennpoaefllaaGreatDoor
open Go.RowKit

namespace G
set_option maxRecDepth 100000 in
theorem byte_ext' {a b : UInt8} (h : ∀ j, j < 8 → a.toNat.testBit j = b.toNat.testBit j) : a = b := by
  apply UInt8.toNat_inj.1
  apply Nat.eq_of_testBit_eq
  intro j
  by_cases q : j < 8
  · exact h j q
  · have hp : 2 ^ 8 ≤ 2 ^ j := Nat.pow_le_pow_right (by decide) (by omega)
    rw [Nat.testBit_lt_two_pow (Nat.lt_of_lt_of_le a.toNat_lt hp), Nat.testBit_lt_two_pow (Nat.lt_of_lt_of_le b.toNat_lt hp)]
set_option maxRecDepth 100000 in
/-- Bytes with the same bits are the same. -/
theorem ext_bits {x y : List UInt8} (hl : x.length = y.length) (h : ∀ i, bit x i = bit y i) : x = y := by
  apply List.ext_getElem hl
  intro i h1 h2
  refine byte_ext' (fun j hj => ?_)
  have q := h (8 * i + j)
  unfold bit at q
  rw [show (8 * i + j) / 8 = i by omega, show (8 * i + j) % 8 = j by omega, List.getD_eq_getElem?_getD, List.getD_eq_getElem?_getD, List.getElem?_eq_getElem h1, List.getElem?_eq_getElem h2] at q
  exact q
set_option maxRecDepth 100000 in
theorem add_bit : ∀ c : Fin 256, ∀ j : Fin 8, c.val.testBit j.val = false → (c.val + 2 ^ j.val) % 256 = (UInt8.ofNat c.val ^^^ UInt8.ofNat (2 ^ j.val)).toNat := by decide +kernel
set_option maxRecDepth 100000 in
theorem add_bit' {c : UInt8} {i : Nat} (h : c.toNat.testBit (i % 8) = false) : (c.toNat + 2 ^ (i % 8)) % 256 = (c ^^^ UInt8.ofNat (2 ^ (i % 8))).toNat := by
  have := add_bit ⟨c.toNat, c.toNat_lt⟩ ⟨i % 8, Nat.mod_lt _ (by decide)⟩ h
  simpa using this
end G
/-- Truths that lie somewhere. -/
def BAt (w : World) (g : Nat) (f : Nat → Bool) (n : Nat) : Prop := ∀ i, i < n → w.cell? ⟨g, i, none⟩ = some (.bool (f i))
set_option maxRecDepth 100000 in
set_option maxHeartbeats 400000 in
theorem rmapsZ (w : World) (n : Nat) (hn : n < 1000000) : Calls Tryz.prog 39 #[.int .i64 (n : Int)] w (Tells (.int .i64 ((G.maps n : Nat) : Int)) w) := by
  have e : ((G.maps n : Nat) : Int) = ((n : Int) + 1919) / 1920 := by unfold G.maps; rfl
  rw [e]
  go_enter Tryz.func39, Tryz.ntmps39
  go_wp2_with fail
  go_ret
  exact ⟨congrArg (fun z => Ending.returned (Value.int .i64 z)) (by omega), rfl⟩
set_option maxRecDepth 100000 in
set_option maxHeartbeats 400000 in
theorem rsizeZ {w : World} {q r : Nat} {s : F.Po} {lv : Value} (h : w.heap[q]? = some (QBox r s lv)) {c : Nat} (hc : s.ct = (c : Int)) (hc2 : c ≤ 1920) : Calls Tryz.prog 40 #[Ptr q, .int .i64 0] w (Tells (.int .i64 (c : Int)) w) := by
  have c2 : w.cell? ⟨q, 2, none⟩ = some (.int .i64 (c : Int)) := by rw [← hc]; exact cellOf h 2
  have hz : ¬ (1920 : Int) < (c : Int) := by omega
  have hz0 : (0 : Int) ≤ (c : Int) := by omega
  clear h hc
  go_enter Tryz.func40, Tryz.ntmps40
  go_wp2_with fail
  go_ret
  exact ⟨rfl, rfl⟩
set_option maxRecDepth 100000 in
set_option maxHeartbeats 4000000 in
theorem rputZ {w0 w : World} {X : List (Nat × Obj)} {p d q r : Nat} {s s' : F.Po} {D D' : dSt} {n k : Nat} (h : PwE w0 w X p d q r s s' D D' n k) (hg : F.Good s') (hmo : s'.mo ≤ 256) (hnl : F.Nil s') (g cap c : Nat) (f : Nat → Bool) (hB : BAt w g f c) (hc1 : 1 ≤ c) (hc2 : c ≤ 1920) (y : List UInt8) (hy : y.length = (c + 7) / 8) (hb : ∀ j, G.bit y j = (decide (j < c) && f j)) :
    Calls Tryz.prog 41 #[Ptr q, .int .i64 0, .slice (some ⟨g, 0, none⟩) c cap] w (PPw w0 X p d q r s (F.putS s' ((0 : Nat) : Int) (G.pg 0 y)) D D' n k (.int .i64 (F.putE s' ((0 : Nat) : Int) (G.pg 0 y) : Int))) := by
  obtain ⟨L, hL⟩ : ∃ L, L = (c + 7) / 8 := ⟨_, rfl⟩
  have hm : ∀ w, (Instr.makeSlice 43 (.int .i64 (((c : Int) + 7) / 8)) (.int .i64 (((c : Int) + 7) / 8))).run Tryz.prog w = .ok (.slice (some ⟨w.heap.size, 0, none⟩) L L) (w.alloc (.cells (S (List.replicate L 0)).toArray 5)) := fun w => by
    have q := makeN L (by omega) w
    rw [show (L : Int) = ((c : Int) + 7) / 8 by omega] at q
    exact q
  have hcz : (c : Int) ≤ 1920 := by omega
  rw [← hL] at hy
  have HH := hid (And.intro h (And.intro hB (And.intro hy (And.intro hb hL))))
  clear h hB hy hb hL
  obtain ⟨gb, hgb⟩ : ∃ gb, gb = w.heap.size := ⟨_, rfl⟩
  obtain ⟨wA, hwA⟩ : ∃ wA, wA = w.alloc (.cells (S (List.replicate L 0)).toArray 5) := ⟨_, rfl⟩
  have HA := hid (show Adds w wA ∧ wA.heap[gb]? = some (.cells (S (List.replicate L 0)).toArray 5 (0, 0)) by rw [hwA, hgb]; exact ⟨(Touch.refl _ w).alloc _, heap_alloc_new w _⟩)
  go_enter Tryz.func41, Tryz.ntmps41
  go_upto_region 2 with fail
  rw [← hwA, ← hgb]
  have HGB := hid hgb
  clear hwA hgb hm
  go_wp2_with fail
  go_loopw [8] (fun iv wr => ∃ (i : Nat) (yb : List UInt8), iv = .int .i64 (i : Int) ∧ i ≤ c ∧ Hid (Adds w wr ∧ wr.heap[gb]? = some (.cells (S yb).toArray 5 (0, 0)) ∧ yb.length = L ∧ ∀ j, G.bit yb j = (decide (j < i) && f j))) (fun iv _ => c - (intOf iv).toNat)
  case atStart => exact ⟨0, List.replicate L 0, rfl, Nat.zero_le _, HA.out.1, HA.out.2, by simp, fun j => by rw [G.zeros_bit]; simp⟩
  case round =>
    obtain ⟨i, yb, rfl, hi, HI⟩ := hrel
    by_cases hlt : i < c
    · have hltz : (i : Int) < (c : Int) := by omega
      have ci : wr.cell? ⟨g, i, none⟩ = some (.bool (f i)) := below_adds HI.out.1 (HH.out.2.1 i hlt)
      by_cases hf : f i = true
      · rw [hf] at ci
        obtain ⟨z, hz⟩ : ∃ z, z = i / 8 := ⟨_, rfl⟩
        have hzL : z < L := by have := HH.out.2.2.2.2; omega
        obtain ⟨cv, hcv⟩ : ∃ cv, yb[z]? = some cv := ⟨_, List.getElem?_eq_getElem (by rw [HI.out.2.2.1]; exact hzL)⟩
        have hcell : wr.cell? ⟨gb, z, none⟩ = some (.int .u8 (cv.toNat : Int)) := by rw [cellOf HI.out.2.1]; simp [S, hcv, B8]
        have hfz : wr.frozen? ⟨gb, z, none⟩ = false := by simp [World.frozen?, HI.out.2.1]
        have hq : (i : Int) / 8 = (z : Int) := by rw [hz]; rfl
        obtain ⟨v, hv⟩ : ∃ v : Nat, v = cv.toNat := ⟨_, rfl⟩
        rw [← hv] at hcell
        have HZ := hid (And.intro hz (And.intro hcv hv))
        clear hz hcv hv
        go_wp2_with fail
        have hbit : cv.toNat.testBit (i % 8) = false := by
          have q := HI.out.2.2.2 i
          unfold G.bit at q
          rw [← HZ.out.1, getD_some HZ.out.2.1] at q
          simpa using q
        have hval : ((v : Int) + 2 ^ (i % 8)) % 256 = (((cv ^^^ UInt8.ofNat (2 ^ (i % 8))).toNat : Nat) : Int) := by
          rw [← G.add_bit' hbit, HZ.out.2.2]
          simp
        rw [hval]
        go_roundw
        case rel =>
          refine ⟨i + 1, G.flip yb i, by go_num, by omega, HI.out.1.then (Touch.setCell (T := fun j => j = gb) (Touch.refl _ wr) (p := ⟨gb, z, none⟩) (fun _ => rfl) _) (fun j hj e => by have := HGB.out; omega), ?_, by rw [G.len_flip]; exact HI.out.2.2.1, fun j => ?_⟩
          · rw [heap_setCell_same wr gb z _ 5 _ HI.out.2.1]
            congr 2
            apply Array.ext'
            rw [Array.toList_setIfInBounds]
            unfold G.flip
            rw [← HZ.out.1, getD_some HZ.out.2.1]
            simp [S, List.map_set, B8]
          · rw [G.bit_flip yb j (by rw [HI.out.2.2.1, ← HZ.out.1]; exact hzL), HI.out.2.2.2]
            by_cases qj : j = i
            · subst qj; simp [hf]
            · by_cases q2 : j < i
              · have : j < i + 1 := by omega
                simp [qj, q2, this]
              · have : ¬ j < i + 1 := by omega
                simp [qj, q2, this]
        case measure => simp [intOf]; omega
      · have hf' : f i = false := by simpa using hf
        rw [hf'] at ci
        go_wp2_with fail
        go_roundw
        case rel => exact ⟨i + 1, yb, by go_num, by omega, HI.out.1, HI.out.2.1, HI.out.2.2.1, fun j => by rw [HI.out.2.2.2]; by_cases qj : j = i; subst qj; simp [hf']; by_cases q2 : j < i; simp [q2]; intro _; omega; simp [q2]; intro q3; omega⟩
        case measure => simp [intOf]; omega
    · obtain rfl : i = c := by omega
      have hyy : yb = y := G.ext_bits (by rw [HI.out.2.2.1, HH.out.2.2.1]) (fun j => by rw [HI.out.2.2.2, HH.out.2.2.2.1])
      subst hyy
      have hyl : yb.length ≤ 240 := by rw [HI.out.2.2.1]; have := HH.out.2.2.2.2; omega
      have hAt : At wr (some ⟨gb, 0, none⟩) yb := fun j cc hj => ⟨gb, 0, rfl, by rw [cellOf HI.out.2.1]; simp [S, hj, B8]⟩
      have hgq := one_cell wr (some ⟨gb, 0, none⟩) yb L L HI.out.2.2.1 (fun e => by cases e) hAt
      have HBy := hid (show Calls Tryz.prog 52 #[.agg #[.int .i64 0, .int .u8 2, .slice (some ⟨wr.heap.size, 0, none⟩) 1 1]] (wr.alloc (.cells #[.slice (some ⟨gb, 0, none⟩) L L] 43)) _ from rbytes_any (Q := fun _ => True) 0 2 (some ⟨wr.heap.size, 0, none⟩) [⟨some ⟨gb, 0, none⟩, yb, L⟩] 1 1 rfl _ hgq (by decide) (by show M.taken [yb] ≤ 244; rw [M.taken_one]; omega))
      have HPu := hid (fun (w' : World) (hA : Adds w w') (ra : Option Addr) (rc : Nat) (hr : 256 ≤ rc) (hAt : At w' ra (G.pg 0 yb)) => show Calls Tryz.prog 54 #[Ptr q, .int .i64 0, .slice ra 256 rc] w' _ from pq_put (HH.out.1.adds hA) hg hmo hnl ((0 : Nat) : Int) ra (G.pg 0 yb) 256 rc (G.pg_len hyl) hr hAt)
      have hlt' : ¬ (i : Int) < (i : Int) := by omega
      clear hAt hgq
      unfold Ptr at *
      go_wp2_with (first
        | (go_at_call 52; refine HBy.out.mono ?_; rintro e w3 ⟨ra, rc, rfl, H3⟩)
        | (go_at_call 54; refine (HPu.out w3 ((HI.out.1.alloc _).trans H3.out.2) ra rc (by obtain ⟨_, _, e, hc, _⟩ := own_cq H3.out.1; cases e; exact hc) (At.owns H3.out.1)).mono ?_; rintro e w4 ⟨rfl, H4⟩))
      go_ret
      exact ⟨rfl, H4.out⟩
end Go.Proofs.YtjlennpoaefllaaGreatDoor

/- The reference's Get of a map, where there is one. -/
namespace Go.Proofs.YtjlennpoaefllaaGreatDoor
open Go.RowKit

set_option maxRecDepth 100000 in
theorem info4Z : ∃ i, Tryz.prog.info? 4 = some i ∧ i.zero = some (.bool false) ∧ i.size = 1 ∧ i.bytes = 1 := by
  have h : (Tryz.prog.info? 4).map (fun i => (i.zero, i.size, i.bytes)) = some (some (.bool false), 1, 1) := by kernel_rfl
  cases hq : Tryz.prog.info? 4 with
  | none => rw [hq] at h; cases h
  | some i =>
    rw [hq] at h
    simp only [Option.map_some, Option.some.injEq, Prod.mk.injEq] at h
    exact ⟨i, rfl, h.1, h.2.1, h.2.2⟩
/-- A map that is not got by the reference. -/
def PGnZ (w0 : World) (X : List (Nat × Obj)) (p d q r : Nat) (s s' : F.Po) (D D' : dSt) (n k z : Nat) (e : Ending) (w' : World) : Prop := e = .returned (.tuple #[.slice none 0 0, .int .i64 (z : Int)]) ∧ Hid (PwE w0 w' X p d q r s s' D D' n k)
/-- A map that is: its truths. -/
def PGmZ (w0 : World) (X : List (Nat × Obj)) (p d q r : Nat) (s s' : F.Po) (D D' : dSt) (n k c : Nat) (f : Nat → Bool) (e : Ending) (w' : World) : Prop := ∃ g cap cur, e = .returned (.tuple #[.slice (some ⟨g, 0, none⟩) c cap, .int .i64 0]) ∧ Hid (PwE w0 w' ((g, .cells cur 4 (0, 0)) :: X) p d q r s s' D D' n k ∧ cur.toList.take c = (List.range c).map (fun i => Value.bool (f i)) ∧ w0.heap.size ≤ g ∧ ∀ x ∈ X, x.1 ≠ g)
def PGZ (w0 : World) (X : List (Nat × Obj)) (p d q r : Nat) (s s' : F.Po) (D D' : dSt) (n k c z : Nat) (f : Nat → Bool) (e : Ending) (w' : World) : Prop := if z = 0 then PGmZ w0 X p d q r s s' D D' n k c f e w' else PGnZ w0 X p d q r s s' D D' n k z e w'
/-- A page that was got, as a map. -/
def PGO (w0 : World) (X : List (Nat × Obj)) (p d q r : Nat) (s s' : F.Po) (D D' : dSt) (n k c : Nat) (o : Option (List UInt8)) (e : Ending) (w' : World) : Prop := PGZ w0 X p d q r s s' D D' n k c (if o.isSome then 0 else 22) (G.bit (o.getD [])) e w'
set_option maxRecDepth 100000 in
theorem PGO.no {w0 : World} {X : List (Nat × Obj)} {p d q r : Nat} {s s' : F.Po} {D D' : dSt} {n k c : Nat} {o : Option (List UInt8)} {e : Ending} {w' : World} (h : o = none) (hp : PGnZ w0 X p d q r s s' D D' n k 22 e w') : PGO w0 X p d q r s s' D D' n k c o e w' := by
  subst h
  exact hp
/-- How far the truths have been taken. -/
structure Tr (w1 wr : World) (v : Value) (m : Nat) (f : Nat → Bool) : Prop where
  rows : wr.ownsRow 0 4 1 v m ((List.range m).map fun i => Value.bool (f i))
  own : ∀ j, v.ownBlock = some j → w1.heap.size ≤ j
  adds : Adds w1 wr
set_option maxRecDepth 100000 in
theorem Tr.more {w1 wr w2 : World} {v v' : Value} {m : Nat} {f : Nat → Bool} {o : Obj} (h : Tr w1 wr v m f) (hG : Grew (wr.alloc o) w2 4 v v' (m + 1) ((List.range m).map (fun i => Value.bool (f i)) ++ [.bool (f m)])) : Tr w1 w2 v' (m + 1) f := by
  have s1 := h.adds.size
  refine ⟨by rw [List.range_succ, List.map_append]; exact hG.1, hG.lt (by simp; omega) h.own, (h.adds.alloc o).then hG.touch (fun k hk c => by have := h.own k c; omega)⟩
end Go.Proofs.YtjlennpoaefllaaGreatDoor

/- The reference's Format and Alloc of one map. -/
namespace Go.Proofs.YtjlennpoaefllaaGreatDoor
open Go.RowKit

/-- Truths in a row. -/
def BL (c : Nat) (f : Nat → Bool) : List Value := (List.range c).map (fun i => Value.bool (f i))
set_option maxRecDepth 100000 in
theorem BL_get {c : Nat} {f : Nat → Bool} {i : Nat} (h : i < c) : (BL c f)[i]? = some (.bool (f i)) := by
  unfold BL
  rw [List.getElem?_map, List.getElem?_range h]
  rfl
set_option maxRecDepth 100000 in
theorem BL_set {c : Nat} {f : Nat → Bool} {i : Nat} (b : Bool) : (BL c f).set i (.bool b) = BL c (fun j => if j = i then b else f j) := by
  apply List.ext_getElem?
  intro j
  unfold BL
  rw [List.getElem?_set, List.getElem?_map, List.getElem?_map]
  by_cases hj : j < c
  · rw [List.getElem?_range hj]
    by_cases e : i = j
    · subst e; simp [hj]
    · have : ¬ j = i := fun q => e q.symm
      simp [e, this]
  · have : (List.range c)[j]? = none := List.getElem?_eq_none (by simp; omega)
    rw [this]
    by_cases e : i = j
    · subst e; simp; omega
    · simp [e]
set_option maxRecDepth 100000 in
theorem bl_cell {w : World} {g c : Nat} {cur : Array Value} {f : Nat → Bool} (hg : w.heap[g]? = some (.cells cur 4 (0, 0))) (hc : cur.toList.take c = BL c f) {i : Nat} (hi : i < c) : w.cell? ⟨g, i, none⟩ = some (.bool (f i)) := by
  rw [cellOf hg, ← Array.getElem?_toList]
  have q : (cur.toList.take c)[i]? = some (.bool (f i)) := by rw [hc]; exact BL_get hi
  rw [List.getElem?_take, if_pos hi] at q
  exact q
theorem bl_bat {w : World} {g c : Nat} {cur : Array Value} {f : Nat → Bool} (hg : w.heap[g]? = some (.cells cur 4 (0, 0))) (hc : cur.toList.take c = BL c f) : BAt w g f c := fun _ hi => bl_cell hg hc hi
set_option maxRecDepth 100000 in
theorem bl_set {w : World} {g c : Nat} {cur : Array Value} {f : Nat → Bool} (hg : w.heap[g]? = some (.cells cur 4 (0, 0))) (hc : cur.toList.take c = BL c f) (i : Nat) (b : Bool) : (w.setCell ⟨g, i, none⟩ (.bool b)).heap[g]? = some (.cells (cur.setIfInBounds i (.bool b)) 4 (0, 0)) ∧ (cur.setIfInBounds i (.bool b)).toList.take c = BL c (fun j => if j = i then b else f j) := by
  refine ⟨heap_setCell_same w g i _ 4 _ hg, ?_⟩
  rw [Array.toList_setIfInBounds, List.take_set, hc, BL_set]
set_option maxRecDepth 100000 in
theorem makeB (n : Nat) (h : n ≤ 2000) (w : World) : (Instr.makeSlice 95 (.int .i64 (n : Int)) (.int .i64 (n : Int))).run Tryz.prog w = .ok (.slice (some ⟨w.heap.size, 0, none⟩) n n) (w.alloc (.cells (BL n fun _ => false).toArray 4)) := by
  obtain ⟨i0, hi, hz0, hz1, hz2⟩ := info4Z
  have q := run_make (P := Tryz.prog) w 95 4 i0 (.bool false) Tryz.underlying95 hi hz0 .i64 .i64 n n (by omega) (by omega) (by rw [hz2]; omega) (by omega)
  rw [q, hz1]
  simp only [madeCells, Int.toNat_natCast, Nat.mul_one]
  congr 3
  apply Array.ext
  · simp [BL]
  · intro i h1 h2; simp [Value.cells, Nat.mod_one, BL]
set_option maxRecDepth 100000 in
theorem PwE.cq {w0 w : World} {X : List (Nat × Obj)} {p d q r : Nat} {s s' : F.Po} {D D' : dSt} {n k : Nat} (h : PwE w0 w X p d q r s s' D D' n k) {c : Nat} (hc : s'.ct = (c : Int)) : w.cell? ⟨q, 2, none⟩ = some (.int .i64 (c : Int)) := by
  obtain ⟨O, OD, OQ, OR, h⟩ := h
  obtain ⟨lv, hq⟩ := h.isq
  rw [← hc]
  exact cellOf hq.box 2
set_option maxRecDepth 100000 in
theorem rmaps1 (w : World) {c : Nat} (hc1 : 1 ≤ c) (hc2 : c ≤ 1920) : Calls Tryz.prog 39 #[.int .i64 (c : Int)] w (Tells (.int .i64 1) w) := by
  have q := rmapsZ w c (by omega)
  rw [G.maps1 hc1 hc2] at q
  exact q
set_option maxRecDepth 100000 in
theorem PwE.rsize {w0 w : World} {X : List (Nat × Obj)} {p d q r : Nat} {s s' : F.Po} {D D' : dSt} {n k : Nat} (h : PwE w0 w X p d q r s s' D D' n k) {c : Nat} (hc : s'.ct = (c : Int)) (hc2 : c ≤ 1920) : Calls Tryz.prog 40 #[Ptr q, .int .i64 0] w (Tells (.int .i64 (c : Int)) w) := by
  obtain ⟨O, OD, OQ, OR, h⟩ := h
  obtain ⟨lv, hq⟩ := h.isq
  exact rsizeZ hq.box hc hc2
set_option maxRecDepth 100000 in
set_option maxHeartbeats 4000000 in
theorem rformatZ {w0 w : World} {X : List (Nat × Obj)} {p d q r : Nat} {s s' : F.Po} {D D' : dSt} {n k : Nat} (h : PwE w0 w X p d q r s s' D D' n k) (hg : F.Good s') (hmo : s'.mo ≤ 256) (hnl : F.Nil s') {c : Nat} (hct : s'.ct = (c : Int)) (hc1 : 1 ≤ c) (hc2 : c ≤ 1920) :
    Calls Tryz.prog 14 #[Ptr q] w (PPw w0 X p d q r s (F.putS s' ((0 : Nat) : Int) (G.pg 0 (G.first c 0))) D D' n k (.int .i64 (F.putE s' ((0 : Nat) : Int) (G.pg 0 (G.first c 0)) : Int))) := by
  obtain ⟨S2, hS2⟩ : ∃ S2, S2 = F.putS s' ((0 : Nat) : Int) (G.pg 0 (G.first c 0)) := ⟨_, rfl⟩
  obtain ⟨z, hz⟩ : ∃ z, z = F.putE s' ((0 : Nat) : Int) (G.pg 0 (G.first c 0)) := ⟨_, rfl⟩
  have hct2 : S2.ct = (c : Int) := by rw [hS2, (F.put_same s' _ _).2.1]; exact hct
  have hfst := G.CellOf.first hc1 hc2
  have HPut := hid (fun (w1 : World) (h1 : Adds w w1) (g : Nat) (cur : Array Value) (hB : w1.heap[g]? = some (.cells cur 4 (0, 0)) ∧ cur.toList.take c = BL c (fun j => decide (j < 1))) => show Calls Tryz.prog 41 #[Ptr q, .int .i64 0, .slice (some ⟨g, 0, none⟩) c c] w1 (PPw w0 X p d q r s S2 D D' n k (.int .i64 (z : Int))) by
    rw [hS2, hz]
    exact rputZ (h.adds h1) hg hmo hnl g c c _ (bl_bat hB.1 hB.2) hc1 hc2 _ (by rw [hfst.1]; unfold G.cells G.size; omega) (fun j => by rw [hfst.2 j]; by_cases e : j = 0 <;> simp [e]))
  rw [← hS2, ← hz]
  have HC := hid (fun (w1 : World) (h1 : Adds w w1) => (h.adds h1).cq hct)
  have HC2 := hid (fun (w1 : World) (h1 : PwE w0 w1 X p d q r s S2 D D' n k) => h1.cq hct2)
  have HS := hid (h.rsize hct hc2)
  have HM := hid (fun w1 => rmaps1 w1 hc1 hc2)
  have HN := hid (And.intro hc1 hc2)
  have hmk := makeB c (by omega)
  clear hS2 hz hct2 hfst h hg hmo hnl hct hc2
  have hcn : 0 < c := hc1
  clear hc1
  unfold Ptr at *
  go_enter Tryz.func14, Tryz.ntmps14
  go_wp2_with fail
  go_loopw [3] (fun kv wr => ∃ j : Nat, kv = .int .i64 (j : Int) ∧ j ≤ 1 ∧ Hid ((j = 0 ∧ wr = w) ∨ (j = 1 ∧ z = 0 ∧ PwE w0 wr X p d q r s S2 D D' n k))) (fun kv _ => 1 - (intOf kv).toNat)
  case atStart => exact ⟨0, rfl, by decide, .inl ⟨rfl, rfl⟩⟩
  case round =>
    obtain ⟨j, rfl, hj, HI⟩ := hrel
    rcases HI.out with ⟨rfl, hw⟩ | ⟨rfl, hz0, h2⟩
    · have hw := hw.symm
      subst hw
      have c2 := HC.out w (Touch.refl _ w)
      clear HI
      obtain ⟨gb, hgb⟩ : ∃ gb, gb = w.heap.size := ⟨_, rfl⟩
      obtain ⟨wA, hwA⟩ : ∃ wA, wA = w.alloc (.cells (BL c fun _ => false).toArray 4) := ⟨_, rfl⟩
      have HA := hid (show Adds w wA ∧ wA.heap[gb]? = some (.cells (BL c fun _ => false).toArray 4 (0, 0)) by rw [hwA, hgb]; exact ⟨(Touch.refl _ w).alloc _, heap_alloc_new w _⟩)
      go_upto_region 5 with (first
        | (go_at_call 39; refine (HM.out _).mono ?_; rintro e _ ⟨rfl, hw⟩; rw [hw]; clear hw)
        | (go_at_call 40; refine HS.out.mono ?_; rintro e _ ⟨rfl, hw⟩; rw [hw]; clear hw))
      rw [← hwA, ← hgb]
      have HGB := hid hgb
      clear hwA hgb hmk c2
      go_wp2_with fail
      go_loopw [5] (fun iv w' => ∃ i : Nat, iv = .int .i64 (i : Int) ∧ i ≤ 1 ∧ Hid (Adds w w' ∧ ∃ cur, w'.heap[gb]? = some (.cells cur 4 (0, 0)) ∧ cur.toList.take c = BL c (fun j => decide (j < i)))) (fun iv _ => 1 - (intOf iv).toNat)
      case atStart => exact ⟨0, rfl, by decide, HA.out.1, _, HA.out.2, by rw [show (BL c fun j => decide (j < 0)) = BL c fun _ => false from rfl]; exact List.take_of_length_le (by simp [BL])⟩
      case round =>
        obtain ⟨i, rfl, hi, HJ⟩ := hrel
        have c2 := HC.out _ HJ.out.1
        obtain ⟨hA, cur, hg, hcur⟩ := HJ.out
        by_cases hi0 : i = 0
        · subst hi0
          have hfz : wr.frozen? ⟨gb, 0, none⟩ = false := by simp [World.frozen?, hg]
          have hc0 : wr.cell? ⟨gb, 0, none⟩ = some (.bool false) := bl_cell hg hcur hcn
          have HSt := hid (bl_set hg hcur 0 true)
          clear hg hcur hA
          go_wp2_with (go_at_call 39; refine (HM.out _).mono ?_; rintro e _ ⟨rfl, hw⟩; rw [hw]; clear hw)
          go_roundw
          case rel =>
            refine ⟨1, rfl, by decide, HJ.out.1.then (Touch.setCell (T := fun j => j = gb) (Touch.refl _ wr) (p := ⟨gb, 0, none⟩) (fun _ => rfl) _) (fun j hj e => by have := HGB.out; omega), _, HSt.out.1, ?_⟩
            rw [HSt.out.2]
            congr 1
            funext j
            by_cases e : j = 0 <;> simp [e]
          case measure => simp [intOf]
        · obtain rfl : i = 1 := by omega
          have HP := hid (HPut.out wr hA gb cur ⟨hg, hcur⟩)
          clear hg hcur hA
          by_cases hz0 : z = 0
          · subst hz0
            go_wp2_with (first
              | (go_at_call 39; refine (HM.out _).mono ?_; rintro e _ ⟨rfl, hw⟩; rw [hw]; clear hw)
              | (go_at_call 41; refine HP.out.mono ?_; rintro e w5 ⟨rfl, H5⟩))
            go_roundw
            case rel => exact ⟨1, rfl, by decide, .inr ⟨by first | rfl | trivial, by first | rfl | trivial, H5.out⟩⟩
            case measure => simp [intOf]
          · have hz1 : ((z : Int) != 0) = true := by simp; omega
            have hz2 : ¬ (z : Int) = 0 := by omega
            go_wp2_with (first
              | (go_at_call 39; refine (HM.out _).mono ?_; rintro e _ ⟨rfl, hw⟩; rw [hw]; clear hw)
              | (go_at_call 41; refine HP.out.mono ?_; rintro e w5 ⟨rfl, H5⟩))
            go_ret
            exact ⟨rfl, H5.out⟩
    · have c2 := HC2.out wr h2
      have H2 := hid h2
      subst hz0
      clear h2 HI
      go_wp2_with (go_at_call 39; refine (HM.out _).mono ?_; rintro e _ ⟨rfl, hw⟩; rw [hw]; clear hw)
      go_ret
      exact ⟨rfl, H2.out⟩
end Go.Proofs.YtjlennpoaefllaaGreatDoor

/- The reference's Alloc, Free of one map. -/
namespace Go.Proofs.YtjlennpoaefllaaGreatDoor
open Go.RowKit

/-- The facts of a map that was got. -/
structure Gt (s' : F.Po) (D' : dSt) (c : Nat) (S1 : F.Po) (x : List UInt8) : Prop where
  st : S1 = F.getS s' D' ((0 : Nat) : Int)
  bx : x = G.mapB s' D' 0
  may : G.may c 0 x = true
  good : F.Good S1
  nil : F.Nil S1
  ct : S1.ct = (c : Int)
  mo : S1.mo ≤ 256
set_option maxRecDepth 100000 in
theorem Gt.len {s' : F.Po} {D' : dSt} {c : Nat} {S1 : F.Po} {x : List UInt8} (h : Gt s' D' c S1 x) (hc2 : c ≤ 1920) : x.length = (c + 7) / 8 ∧ x.length ≤ 240 := by
  have := G.may_len h.may
  unfold G.cells G.size at this
  omega
end Go.Proofs.YtjlennpoaefllaaGreatDoor

/- A blob by definition: how many pages it has, their cells; each call of a blob over a pool's state. -/
namespace Go.Proofs.YtjlennpoaefllaaGreatDoor.K

/-- How many pages n bytes have; how many of n bytes the first i pages have. -/
def pages (n : Nat) : Nat := if n ≤ 234 then 1 else 2 + (n - 235) / 238
def inP (i n : Nat) : Nat := if i = 0 then 0 else min (234 + 238 * (i - 1)) n
set_option maxRecDepth 100000 in
theorem pages_pos (n : Nat) : 1 ≤ pages n := by unfold pages; split <;> omega
set_option maxRecDepth 100000 in
theorem pages_le {n : Nat} (h : n ≤ 4000) : pages n ≤ 17 := by unfold pages; split <;> omega
set_option maxRecDepth 100000 in
theorem inP_le (i n : Nat) : inP i n ≤ n := by unfold inP; split <;> omega
set_option maxRecDepth 100000 in
theorem inP_succ (i n : Nat) : inP (i + 1) n = min (234 + 238 * i) n := by unfold inP; rw [if_neg (by omega)]; rfl
set_option maxRecDepth 100000 in
theorem inP_mono (i n : Nat) : inP i n ≤ inP (i + 1) n := by
  cases i with
  | zero => exact Nat.zero_le _
  | succ i => rw [inP_succ, inP_succ]; omega
set_option maxRecDepth 100000 in
theorem inP_share (i n : Nat) : inP (i + 1) n ≤ inP i n + 238 := by
  cases i with
  | zero => rw [inP_succ]; omega
  | succ i => rw [inP_succ, inP_succ]; omega
set_option maxRecDepth 100000 in
theorem inP_first (n : Nat) : inP 1 n ≤ 234 := by rw [inP_succ]; omega
set_option maxRecDepth 100000 in
theorem inP_all {i n : Nat} (h : pages n ≤ i) : inP i n = n := by
  have hp := pages_pos n
  unfold inP
  rw [if_neg (by omega)]
  unfold pages at h
  split at h <;> omega
/-- The i-th share of bytes. -/
def share (b : List UInt8) (i : Nat) : List UInt8 := (b.take (inP (i + 1) b.length)).drop (inP i b.length)
set_option maxRecDepth 100000 in
theorem len_share (b : List UInt8) (i : Nat) : (share b i).length = inP (i + 1) b.length - inP i b.length := by
  unfold share
  rw [List.length_drop, List.length_take]
  have := inP_le (i + 1) b.length
  omega
/-- The number of the page that comes behind the i-th one. -/
def nxt (nos : List Int) (i : Nat) : Int := nos.getD (i + 1) 0
/-- A page's cell ahead of its share. -/
def hd (nx n i : Nat) : List UInt8 := if i = 0 then M.fix nx 4 ++ M.fix n 4 else M.fix nx 4
set_option maxRecDepth 100000 in
theorem len_hd (nx n i : Nat) : (hd nx n i).length = if i = 0 then 8 else 4 := by
  unfold hd
  split
  · rw [List.length_append, M.len_fix, M.len_fix]
  · rw [M.len_fix]
def cell (nos : List Int) (b : List UInt8) (i : Nat) : List UInt8 := hd (nxt nos i).toNat b.length i ++ share b i
set_option maxRecDepth 100000 in
theorem len_cell (nos : List Int) (b : List UInt8) (i : Nat) : (cell nos b i).length ≤ 242 := by
  unfold cell
  rw [List.length_append, len_hd, len_share]
  have h1 := inP_share i b.length
  have h2 := inP_first b.length
  by_cases h : i = 0
  · subst h
    simp
    omega
  · rw [if_neg h]; omega
/-- A page. -/
def pgP (no : Nat) (x : List UInt8) : M.Pg := ⟨no, 4, [x]⟩
def pg (no : Nat) (x : List UInt8) : List UInt8 := M.pbytes (pgP no x)
theorem pg_ok {k : Nat} {x : List UInt8} (hk : k < 2147483648) (hx : x.length ≤ 242) : (pgP k x).Ok := ⟨hk, by show (4 : UInt8) ≠ 0; decide, by show M.taken [x] ≤ 244; rw [M.taken_one]; omega⟩
theorem pg_read {k : Nat} {x : List UInt8} (hk : k < 2147483648) (hx : x.length ≤ 242) : M.readP (pg k x) = some (pgP k x) := M.read_pbytes (pg_ok hk hx)
theorem pg_len {k : Nat} {x : List UInt8} (hx : x.length ≤ 242) : (pg k x).length = 256 := M.len_pbytes (by show M.taken [x] ≤ 244; rw [M.taken_one]; omega)
theorem pg_kind {k : Nat} {x : List UInt8} (hk : k < 2147483648) (hx : x.length ≤ 242) : M.kindP (pg k x) = 4 := M.kind_put (pg_ok hk hx)
theorem pg_cells {k : Nat} {x : List UInt8} (hk : k < 2147483648) (hx : x.length ≤ 242) : M.cellsP (pg k x) = [x] := M.cells_put (pg_ok hk hx)
/-! ### A blob's calls -/
/-- So many pages are taken: their numbers, the answer, the state. -/
def allocN (D : dSt) : Nat → F.Po → List Int → List Int × Nat × F.Po
  | 0, s, l => (l, 0, s)
  | r + 1, s, l => if (G.allocG D (G.maps (G.cnt s)) 0 s).2.1 = 0 then allocN D r (G.allocG D (G.maps (G.cnt s)) 0 s).2.2 (l ++ [(G.allocG D (G.maps (G.cnt s)) 0 s).1]) else ([], (G.allocG D (G.maps (G.cnt s)) 0 s).2.1, (G.allocG D (G.maps (G.cnt s)) 0 s).2.2)
/-- The i-th page, as it is put. -/
def pgAt (nos : List Int) (b : List UInt8) (i : Nat) : List UInt8 := pg (nos.getD i 0).toNat (cell nos b i)
/-- The pages are put from the i-th one on. -/
def putN (nos : List Int) (b : List UInt8) : Nat → Nat → F.Po → Nat × F.Po
  | 0, _, s => (0, s)
  | r + 1, i, s => if F.putE s (nos.getD i 0) (pgAt nos b i) = 0 then putN nos b r (i + 1) (F.putS s (nos.getD i 0) (pgAt nos b i)) else (F.putE s (nos.getD i 0) (pgAt nos b i), F.putS s (nos.getD i 0) (pgAt nos b i))
/-- Put behind what was taken. -/
def putR (b : List UInt8) (R : List Int × Nat × F.Po) : Int × Nat × F.Po := if R.2.1 = 0 then (if (putN R.1 b (pages b.length) 0 R.2.2).1 = 0 then (R.1.getD 0 0, 0, (putN R.1 b (pages b.length) 0 R.2.2).2) else (0, putN R.1 b (pages b.length) 0 R.2.2)) else (0, R.2)
def putB (D : dSt) (s : F.Po) (b : List UInt8) : Int × Nat × F.Po := if 4000 < b.length then (0, 3, s) else putR b (allocN D (pages b.length) s [])
/-- A blob's page that is got: the answer, its cell. -/
def cellE (s : F.Po) (D : dSt) (no : Int) : Nat := if F.getE s D no = 0 then (if M.kindP (F.getB s D no) = 4 ∧ (M.cellsP (F.getB s D no)).length = 1 then 0 else 22) else F.getE s D no
def cellB (s : F.Po) (D : dSt) (no : Int) : List UInt8 := if cellE s D no = 0 then (M.cellsP (F.getB s D no)).headD [] else []
/-- What a cell says: how many bytes stand ahead of its share; the next one's number; the blob's size. -/
def ahead (l : Nat) : Nat := if l = 0 then 8 else 4
def nextOf (c : List UInt8) : Nat := M.unfix (c.take 4)
def sizeOf (l : Nat) (c : List UInt8) (size : Nat) : Nat := if l = 0 then M.unfix ((c.drop 4).take 4) else size
/-- Whether a cell may be the l-th one behind b bytes. -/
def isBad (l : Nat) (c b : List UInt8) (size : Nat) : Bool := decide (c.length < ahead l) || decide (4000 < sizeOf l c size) || decide ((b ++ c.drop (ahead l)).length ≠ inP (l + 1) (sizeOf l c size)) || (decide (l + 1 = pages (sizeOf l c size)) != decide (nextOf c = 0))
/-- A chain is gone through: the numbers, the bytes, the answer, the state. -/
def readN (D : dSt) : Nat → F.Po → List Int → List UInt8 → Nat → Int → List Int × List UInt8 × Nat × F.Po
  | 0, s, _, _, _, _ => ([], [], 0, s)
  | r + 1, s, nos, b, size, no => if cellE s D no = 0 then
      (if isBad nos.length (cellB s D no) b size then ([], [], 22, F.getS s D no)
      else if nos.length + 1 = pages (sizeOf nos.length (cellB s D no) size) then (nos ++ [no], b ++ (cellB s D no).drop (ahead nos.length), 0, F.getS s D no)
      else readN D r (F.getS s D no) (nos ++ [no]) (b ++ (cellB s D no).drop (ahead nos.length)) (sizeOf nos.length (cellB s D no) size) (nextOf (cellB s D no) : Int))
    else ([], [], cellE s D no, F.getS s D no)
def readB (D : dSt) (s : F.Po) (first : Int) : List Int × List UInt8 × Nat × F.Po := readN D 18 s [] [] 0 first
/-- Pages are freed. -/
def freeN (D : dSt) : List Int → F.Po → Nat × F.Po
  | [], s => (0, s)
  | no :: l, s => if (G.freeG D s no).1 = 0 then freeN D l (G.freeG D s no).2 else G.freeG D s no
def freeB (D : dSt) (s : F.Po) (first : Int) : Nat × F.Po := if (readB D s first).2.2.1 = 0 then freeN D (readB D s first).1 (readB D s first).2.2.2 else (readB D s first).2.2
set_option maxRecDepth 100000 in
theorem cell_len {s : F.Po} {D : dSt} {no : Int} : (cellB s D no).length ≤ 242 := by
  unfold cellB
  split
  · cases hR : M.readP (F.getB s D no) with
    | none => rw [(M.none_all hR).2.2.1]; simp
    | some p =>
      rw [(M.some_all hR).2.2.1]
      cases hc : p.cells with
      | nil => simp
      | cons x xs =>
        have h1 := (M.read_ok hR).1.room
        rw [hc, M.taken] at h1
        simp at h1
        show x.length ≤ 242
        omega
  · simp
set_option maxRecDepth 100000 in
theorem isBad_no {l : Nat} {c b : List UInt8} {size : Nat} (h : isBad l c b size = false) : ahead l ≤ c.length ∧ sizeOf l c size ≤ 4000 ∧ (b ++ c.drop (ahead l)).length = inP (l + 1) (sizeOf l c size) ∧ (l + 1 = pages (sizeOf l c size) ↔ nextOf c = 0) := by
  unfold isBad at h
  simp only [Bool.or_eq_false_iff, decide_eq_false_iff_not, bne_eq_false_iff_eq, decide_eq_decide, Nat.not_lt, Decidable.not_not] at h
  exact ⟨h.1.1.1, h.1.1.2, h.1.2, h.2⟩
end Go.Proofs.YtjlennpoaefllaaGreatDoor.K
