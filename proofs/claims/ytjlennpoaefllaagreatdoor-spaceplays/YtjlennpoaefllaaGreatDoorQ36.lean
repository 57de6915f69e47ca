/- Texts put together: GQ1, GQ2, GQ3, GQ4, KMath. -/
import Derived.Test.YtjlennpoaefllaaGreatDoorQ33
import Derived.Test.YtjlennpoaefllaaGreatDoorQ35
import Derived.Maps.AppendAt
import Derived.Test.YtjlennpoaefllaaGreatDoorQ34
/- The reference's space of one map: Size, put. -/
namespace Go.Proofs.YtjlennpoaefllaaGreatDoor
open Go.RowKit

namespace G
set_option maxRecDepth 100000 in
theorem byte_ext' {a b : UInt8} (h : ∀ j, j < 8 → a.toNat.testBit j = b.toNat.testBit j) : a = b := by
  apply UInt8.toNat_inj.1
  apply Nat.eq_of_testBit_eq
  intro j
  by_cases q : j < 8
  · exact h j q
  · have hp : 2 ^ 8 ≤ 2 ^ j := Nat.pow_le_pow_right (by decide) (by omega)
    rw [Nat.testBit_lt_two_pow (Nat.lt_of_lt_of_le a.toNat_lt hp), Nat.testBit_lt_two_pow (Nat.lt_of_lt_of_le b.toNat_lt hp)]
set_option maxRecDepth 100000 in
/-- Bytes with the same bits are the same. -/
theorem ext_bits {x y : List UInt8} (hl : x.length = y.length) (h : ∀ i, bit x i = bit y i) : x = y := by
  apply List.ext_getElem hl
  intro i h1 h2
  refine byte_ext' (fun j hj => ?_)
  have q := h (8 * i + j)
  unfold bit at q
  rw [show (8 * i + j) / 8 = i by omega, show (8 * i + j) % 8 = j by omega, List.getD_eq_getElem?_getD, List.getD_eq_getElem?_getD, List.getElem?_eq_getElem h1, List.getElem?_eq_getElem h2] at q
  exact q
set_option maxRecDepth 100000 in
theorem add_bit : ∀ c : Fin 256, ∀ j : Fin 8, c.val.testBit j.val = false → (c.val + 2 ^ j.val) % 256 = (UInt8.ofNat c.val ^^^ UInt8.ofNat (2 ^ j.val)).toNat := by decide +kernel
set_option maxRecDepth 100000 in
theorem add_bit' {c : UInt8} {i : Nat} (h : c.toNat.testBit (i % 8) = false) : (c.toNat + 2 ^ (i % 8)) % 256 = (c ^^^ UInt8.ofNat (2 ^ (i % 8))).toNat := by
  have := add_bit ⟨c.toNat, c.toNat_lt⟩ ⟨i % 8, Nat.mod_lt _ (by decide)⟩ h
  simpa using this
end G
/-- Truths that lie somewhere. -/
def BAt (w : World) (g : Nat) (f : Nat → Bool) (n : Nat) : Prop := ∀ i, i < n → w.cell? ⟨g, i, none⟩ = some (.bool (f i))
set_option maxRecDepth 100000 in
set_option maxHeartbeats 400000 in
theorem rmapsZ (w : World) (n : Nat) (hn : n < 1000000) : Calls Tryz.prog 39 #[.int .i64 (n : Int)] w (Tells (.int .i64 ((G.maps n : Nat) : Int)) w) := by
  have e : ((G.maps n : Nat) : Int) = ((n : Int) + 1919) / 1920 := by unfold G.maps; rfl
  rw [e]
  go_enter Tryz.func39, Tryz.ntmps39
  go_wp2_with fail
  go_ret
  exact ⟨congrArg (fun z => Ending.returned (Value.int .i64 z)) (by omega), rfl⟩
set_option maxRecDepth 100000 in
set_option maxHeartbeats 400000 in
theorem rsizeZ {w : World} {q r : Nat} {s : F.Po} {lv : Value} (h : w.heap[q]? = some (QBox r s lv)) {c : Nat} (hc : s.ct = (c : Int)) (hc2 : c ≤ 1920) : Calls Tryz.prog 40 #[Ptr q, .int .i64 0] w (Tells (.int .i64 (c : Int)) w) := by
  have c2 : w.cell? ⟨q, 2, none⟩ = some (.int .i64 (c : Int)) := by rw [← hc]; exact cellOf h 2
  have hz : ¬ (1920 : Int) < (c : Int) := by omega
  have hz0 : (0 : Int) ≤ (c : Int) := by omega
  clear h hc
  go_enter Tryz.func40, Tryz.ntmps40
  go_wp2_with fail
  go_ret
  exact ⟨rfl, rfl⟩
set_option maxRecDepth 100000 in
set_option maxHeartbeats 4000000 in
theorem rputZ {w0 w : World} {X : List (Nat × Obj)} {p d q r : Nat} {s s' : F.Po} {D D' : dSt} {n k : Nat} (h : PwE w0 w X p d q r s s' D D' n k) (hg : F.Good s') (hmo : s'.mo ≤ 256) (hnl : F.Nil s') (g cap c : Nat) (f : Nat → Bool) (hB : BAt w g f c) (hc1 : 1 ≤ c) (hc2 : c ≤ 1920) (y : List UInt8) (hy : y.length = (c + 7) / 8) (hb : ∀ j, G.bit y j = (decide (j < c) && f j)) :
    Calls Tryz.prog 41 #[Ptr q, .int .i64 0, .slice (some ⟨g, 0, none⟩) c cap] w (PPw w0 X p d q r s (F.putS s' ((0 : Nat) : Int) (G.pg 0 y)) D D' n k (.int .i64 (F.putE s' ((0 : Nat) : Int) (G.pg 0 y) : Int))) := by
  obtain ⟨L, hL⟩ : ∃ L, L = (c + 7) / 8 := ⟨_, rfl⟩
  have hm : ∀ w, (Instr.makeSlice 43 (.int .i64 (((c : Int) + 7) / 8)) (.int .i64 (((c : Int) + 7) / 8))).run Tryz.prog w = .ok (.slice (some ⟨w.heap.size, 0, none⟩) L L) (w.alloc (.cells (S (List.replicate L 0)).toArray 5)) := fun w => by
    have q := makeN L (by omega) w
    rw [show (L : Int) = ((c : Int) + 7) / 8 by omega] at q
    exact q
  have hcz : (c : Int) ≤ 1920 := by omega
  rw [← hL] at hy
  have HH := hid (And.intro h (And.intro hB (And.intro hy (And.intro hb hL))))
  clear h hB hy hb hL
  obtain ⟨gb, hgb⟩ : ∃ gb, gb = w.heap.size := ⟨_, rfl⟩
  obtain ⟨wA, hwA⟩ : ∃ wA, wA = w.alloc (.cells (S (List.replicate L 0)).toArray 5) := ⟨_, rfl⟩
  have HA := hid (show Adds w wA ∧ wA.heap[gb]? = some (.cells (S (List.replicate L 0)).toArray 5 (0, 0)) by rw [hwA, hgb]; exact ⟨(Touch.refl _ w).alloc _, heap_alloc_new w _⟩)
  go_enter Tryz.func41, Tryz.ntmps41
  go_upto_region 2 with fail
  rw [← hwA, ← hgb]
  have HGB := hid hgb
  clear hwA hgb hm
  go_wp2_with fail
  go_loopw [8] (fun iv wr => ∃ (i : Nat) (yb : List UInt8), iv = .int .i64 (i : Int) ∧ i ≤ c ∧ Hid (Adds w wr ∧ wr.heap[gb]? = some (.cells (S yb).toArray 5 (0, 0)) ∧ yb.length = L ∧ ∀ j, G.bit yb j = (decide (j < i) && f j))) (fun iv _ => c - (intOf iv).toNat)
  case atStart => exact ⟨0, List.replicate L 0, rfl, Nat.zero_le _, HA.out.1, HA.out.2, by simp, fun j => by rw [G.zeros_bit]; simp⟩
  case round =>
    obtain ⟨i, yb, rfl, hi, HI⟩ := hrel
    by_cases hlt : i < c
    · have hltz : (i : Int) < (c : Int) := by omega
      have ci : wr.cell? ⟨g, i, none⟩ = some (.bool (f i)) := below_adds HI.out.1 (HH.out.2.1 i hlt)
      by_cases hf : f i = true
      · rw [hf] at ci
        obtain ⟨z, hz⟩ : ∃ z, z = i / 8 := ⟨_, rfl⟩
        have hzL : z < L := by have := HH.out.2.2.2.2; omega
        obtain ⟨cv, hcv⟩ : ∃ cv, yb[z]? = some cv := ⟨_, List.getElem?_eq_getElem (by rw [HI.out.2.2.1]; exact hzL)⟩
        have hcell : wr.cell? ⟨gb, z, none⟩ = some (.int .u8 (cv.toNat : Int)) := by rw [cellOf HI.out.2.1]; simp [S, hcv, B8]
        have hfz : wr.frozen? ⟨gb, z, none⟩ = false := by simp [World.frozen?, HI.out.2.1]
        have hq : (i : Int) / 8 = (z : Int) := by rw [hz]; rfl
        obtain ⟨v, hv⟩ : ∃ v : Nat, v = cv.toNat := ⟨_, rfl⟩
        rw [← hv] at hcell
        have HZ := hid (And.intro hz (And.intro hcv hv))
        clear hz hcv hv
        go_wp2_with fail
        have hbit : cv.toNat.testBit (i % 8) = false := by
          have q := HI.out.2.2.2 i
          unfold G.bit at q
          rw [← HZ.out.1, getD_some HZ.out.2.1] at q
          simpa using q
        have hval : ((v : Int) + 2 ^ (i % 8)) % 256 = (((cv ^^^ UInt8.ofNat (2 ^ (i % 8))).toNat : Nat) : Int) := by
          rw [← G.add_bit' hbit, HZ.out.2.2]
          simp
        rw [hval]
        go_roundw
        case rel =>
          refine ⟨i + 1, G.flip yb i, by go_num, by omega, HI.out.1.then (Touch.setCell (T := fun j => j = gb) (Touch.refl _ wr) (p := ⟨gb, z, none⟩) (fun _ => rfl) _) (fun j hj e => by have := HGB.out; omega), ?_, by rw [G.len_flip]; exact HI.out.2.2.1, fun j => ?_⟩
          · rw [heap_setCell_same wr gb z _ 5 _ HI.out.2.1]
            congr 2
            apply Array.ext'
            rw [Array.toList_setIfInBounds]
            unfold G.flip
            rw [← HZ.out.1, getD_some HZ.out.2.1]
            simp [S, List.map_set, B8]
          · rw [G.bit_flip yb j (by rw [HI.out.2.2.1, ← HZ.out.1]; exact hzL), HI.out.2.2.2]
            by_cases qj : j = i
            · subst qj; simp [hf]
            · by_cases q2 : j < i
              · have : j < i + 1 := by omega
                simp [qj, q2, this]
              · have : ¬ j < i + 1 := by omega
                simp [qj, q2, this]
        case measure => simp [intOf]; omega
      · have hf' : f i = false := by simpa using hf
        rw [hf'] at ci
        go_wp2_with fail
        go_roundw
        case rel => exact ⟨i + 1, yb, by go_num, by omega, HI.out.1, HI.out.2.1, HI.out.2.2.1, fun j => by rw [HI.out.2.2.2]; by_cases qj : j = i; subst qj; simp [hf']; by_cases q2 : j < i; simp [q2]; intro _; omega; simp [q2]; intro q3; omega⟩
        case measure => simp [intOf]; omega
    · obtain rfl : i = c := by omega
      have hyy : yb = y := G.ext_bits (by rw [HI.out.2.2.1, HH.out.2.2.1]) (fun j => by rw [HI.out.2.2.2, HH.out.2.2.2.1])
      subst hyy
      have hyl : yb.length ≤ 240 := by rw [HI.out.2.2.1]; have := HH.out.2.2.2.2; omega
      have hAt : At wr (some ⟨gb, 0, none⟩) yb := fun j cc hj => ⟨gb, 0, rfl, by rw [cellOf HI.out.2.1]; simp [S, hj, B8]⟩
      have hgq := one_cell wr (some ⟨gb, 0, none⟩) yb L L HI.out.2.2.1 (fun e => by cases e) hAt
      have HBy := hid (show Calls Tryz.prog 52 #[.agg #[.int .i64 0, .int .u8 2, .slice (some ⟨wr.heap.size, 0, none⟩) 1 1]] (wr.alloc (.cells #[.slice (some ⟨gb, 0, none⟩) L L] 43)) _ from rbytes_any (Q := fun _ => True) 0 2 (some ⟨wr.heap.size, 0, none⟩) [⟨some ⟨gb, 0, none⟩, yb, L⟩] 1 1 rfl _ hgq (by decide) (by show M.taken [yb] ≤ 244; rw [M.taken_one]; omega))
      have HPu := hid (fun (w' : World) (hA : Adds w w') (ra : Option Addr) (rc : Nat) (hr : 256 ≤ rc) (hAt : At w' ra (G.pg 0 yb)) => show Calls Tryz.prog 54 #[Ptr q, .int .i64 0, .slice ra 256 rc] w' _ from pq_put (HH.out.1.adds hA) hg hmo hnl ((0 : Nat) : Int) ra (G.pg 0 yb) 256 rc (G.pg_len hyl) hr hAt)
      have hlt' : ¬ (i : Int) < (i : Int) := by omega
      clear hAt hgq
      unfold Ptr at *
      go_wp2_with (first
        | (go_at_call 52; refine HBy.out.mono ?_; rintro e w3 ⟨ra, rc, rfl, H3⟩)
        | (go_at_call 54; refine (HPu.out w3 ((HI.out.1.alloc _).trans H3.out.2) ra rc (by obtain ⟨_, _, e, hc, _⟩ := own_cq H3.out.1; cases e; exact hc) (At.owns H3.out.1)).mono ?_; rintro e w4 ⟨rfl, H4⟩))
      go_ret
      exact ⟨rfl, H4.out⟩
end Go.Proofs.YtjlennpoaefllaaGreatDoor

/- The reference's Get of a map, where there is one. -/
namespace Go.Proofs.YtjlennpoaefllaaGreatDoor
open Go.RowKit

set_option maxRecDepth 100000 in
/-- A page that is got is a page. -/
theorem get_page {s : F.Po} {D : dSt} {no : Int} (hg : F.Good s) (hE : F.getE s D no = 0) : ∃ pp, M.readP (F.getB s D no) = some pp := by
  have h := (hg.get D no).pgs (F.getF s D no) (by unfold F.getS; rw [if_pos hE]; exact List.mem_append_right _ List.mem_cons_self)
  obtain ⟨pp, h1, _⟩ := h
  exact ⟨pp, by unfold F.getB; rw [if_pos hE]; exact h1⟩
set_option maxRecDepth 100000 in
theorem info4Z : ∃ i, Tryz.prog.info? 4 = some i ∧ i.zero = some (.bool false) ∧ i.size = 1 ∧ i.bytes = 1 := by
  have h : (Tryz.prog.info? 4).map (fun i => (i.zero, i.size, i.bytes)) = some (some (.bool false), 1, 1) := by kernel_rfl
  cases hq : Tryz.prog.info? 4 with
  | none => rw [hq] at h; cases h
  | some i =>
    rw [hq] at h
    simp only [Option.map_some, Option.some.injEq, Prod.mk.injEq] at h
    exact ⟨i, rfl, h.1, h.2.1, h.2.2⟩
set_option maxRecDepth 100000 in
theorem append_t4Z {w : World} {ops : Array Oper} {rest : List Oper} {o : Oper} {act : Act} {Q : Exit → Act → World → Prop} (hgd : o.guard = none) (s x : Operand)
    (ho : o.op = .call { callee := .builtin .append, args := #[s, x], argTypes := #[95, 95] }) (v : Value) (n : Nat) (xs : List Value) (hs : act.eval s = v) (hown : w.ownsRow 0 4 1 v n xs)
    (g : Nat) (u : Value) (hx : act.eval x = .slice (some ⟨g, 0, none⟩) 1 1) (hc : w.cell? ⟨g, 0, none⟩ = some u) (hu : u.oneCell' = true) (hlen : n ≤ 10000000)
    (h : ∀ v' w', Grew w w' 4 v v' (n + 1) (xs ++ [u]) → wpList Tryz.prog ops Q rest (act.put o.dst v') w') : wpList Tryz.prog ops Q (o :: rest) act w := by
  obtain ⟨i0, hi, hz0, hz1, hz2⟩ := info4Z
  refine wpList_append_own_at _ hgd s x 95 ho 0 4 i0 (.bool false) 1 1 Tryz.underlying95 hi hz0 hz1 hz2 rfl (by decide) v n xs hs hown ⟨g, 0, none⟩ 1 1 [u] hx rfl ?_ (fun y hy => by rw [List.mem_singleton.1 hy]; exact hu) (by unfold maxLen; omega) (by omega) (Nat.zero_le _) (fun v' w' h1 h2 _ h4 => h v' w' ⟨h1, h2, h4⟩)
  intro j y hj
  match j, hj with
  | 0, hj =>
    obtain rfl : u = y := by simpa using hj
    rw [Addr.add_mid]; exact hc
/-- A map that is not got by the reference. -/
def PGnZ (w0 : World) (X : List (Nat × Obj)) (p d q r : Nat) (s s' : F.Po) (D D' : dSt) (n k z : Nat) (e : Ending) (w' : World) : Prop := e = .returned (.tuple #[.slice none 0 0, .int .i64 (z : Int)]) ∧ Hid (PwE w0 w' X p d q r s s' D D' n k)
/-- A map that is: its truths. -/
def PGmZ (w0 : World) (X : List (Nat × Obj)) (p d q r : Nat) (s s' : F.Po) (D D' : dSt) (n k c : Nat) (f : Nat → Bool) (e : Ending) (w' : World) : Prop := ∃ g cap cur, e = .returned (.tuple #[.slice (some ⟨g, 0, none⟩) c cap, .int .i64 0]) ∧ Hid (PwE w0 w' ((g, .cells cur 4 (0, 0)) :: X) p d q r s s' D D' n k ∧ cur.toList.take c = (List.range c).map (fun i => Value.bool (f i)) ∧ w0.heap.size ≤ g ∧ ∀ x ∈ X, x.1 ≠ g)
def PGZ (w0 : World) (X : List (Nat × Obj)) (p d q r : Nat) (s s' : F.Po) (D D' : dSt) (n k c z : Nat) (f : Nat → Bool) (e : Ending) (w' : World) : Prop := if z = 0 then PGmZ w0 X p d q r s s' D D' n k c f e w' else PGnZ w0 X p d q r s s' D D' n k z e w'
/-- A page that was got, as a map. -/
def PGO (w0 : World) (X : List (Nat × Obj)) (p d q r : Nat) (s s' : F.Po) (D D' : dSt) (n k c : Nat) (o : Option (List UInt8)) (e : Ending) (w' : World) : Prop := PGZ w0 X p d q r s s' D D' n k c (if o.isSome then 0 else 22) (G.bit (o.getD [])) e w'
set_option maxRecDepth 100000 in
theorem PGO.no {w0 : World} {X : List (Nat × Obj)} {p d q r : Nat} {s s' : F.Po} {D D' : dSt} {n k c : Nat} {o : Option (List UInt8)} {e : Ending} {w' : World} (h : o = none) (hp : PGnZ w0 X p d q r s s' D D' n k 22 e w') : PGO w0 X p d q r s s' D D' n k c o e w' := by
  subst h
  exact hp
set_option maxRecDepth 100000 in
theorem PGO.yes {w0 : World} {X : List (Nat × Obj)} {p d q r : Nat} {s s' : F.Po} {D D' : dSt} {n k c : Nat} {o : Option (List UInt8)} {x : List UInt8} {e : Ending} {w' : World} (h : o = some x) (hp : PGmZ w0 X p d q r s s' D D' n k c (G.bit x) e w') : PGO w0 X p d q r s s' D D' n k c o e w' := by
  subst h
  exact hp
/-- How far the truths have been taken. -/
structure Tr (w1 wr : World) (v : Value) (m : Nat) (f : Nat → Bool) : Prop where
  rows : wr.ownsRow 0 4 1 v m ((List.range m).map fun i => Value.bool (f i))
  own : ∀ j, v.ownBlock = some j → w1.heap.size ≤ j
  adds : Adds w1 wr
set_option maxRecDepth 100000 in
theorem Tr.more {w1 wr w2 : World} {v v' : Value} {m : Nat} {f : Nat → Bool} {o : Obj} (h : Tr w1 wr v m f) (hG : Grew (wr.alloc o) w2 4 v v' (m + 1) ((List.range m).map (fun i => Value.bool (f i)) ++ [.bool (f m)])) : Tr w1 w2 v' (m + 1) f := by
  have s1 := h.adds.size
  refine ⟨by rw [List.range_succ, List.map_append]; exact hG.1, hG.lt (by simp; omega) h.own, (h.adds.alloc o).then hG.touch (fun k hk c => by have := h.own k c; omega)⟩
set_option maxRecDepth 100000 in
theorem shr_bit : ∀ c : Fin 256, ∀ j : Fin 8, (c.val / 2 ^ j.val) % 2 = (if c.val.testBit j.val then 1 else 0) := by decide +kernel
set_option maxRecDepth 100000 in
theorem bit_shr {x : List UInt8} {i : Nat} {cv : UInt8} (h : x[i / 8]? = some cv) : (((cv.toNat : Int) / 2 ^ (i % 8)).tmod 2 == 1) = G.bit x i := by
  have q := shr_bit ⟨cv.toNat, cv.toNat_lt⟩ ⟨i % 8, Nat.mod_lt _ (by decide)⟩
  simp only at q
  have e : ((cv.toNat : Int) / 2 ^ (i % 8)).tmod 2 = (((cv.toNat / 2 ^ (i % 8)) % 2 : Nat) : Int) := by
    rw [show ((2 : Int) ^ (i % 8)) = ((2 ^ (i % 8) : Nat) : Int) by simp, ← Int.natCast_ediv]
    exact (Int.ofNat_tmod _ 2).symm
  rw [e, q]
  unfold G.bit
  rw [getD_some h]
  cases cv.toNat.testBit (i % 8) <;> rfl
set_option maxRecDepth 100000 in
set_option maxHeartbeats 4000000 in
theorem rgetZ {w0 w : World} {X : List (Nat × Obj)} {p d q r : Nat} {s s' : F.Po} {D D' : dSt} {n k : Nat} {k0 : Nat} (h : PwE w0 w X p d q r s s' D D' n k) (hdk : DOk D' k0) (hk9 : k0 ≤ 900) (hok : POk s' D') (hg : F.Good s') {c : Nat} (hct : s'.ct = (c : Int)) (hc1 : 1 ≤ c) (hc2 : c ≤ 1920) :
    Calls Tryz.prog 80 #[Ptr q, .int .i64 0] w (PGZ w0 X p d q r s (F.getS s' D' ((0 : Nat) : Int)) D D' n k c (G.mapE s' D' 0) (G.bit (G.mapB s' D' 0))) := by
  have hcn : G.cnt s' = c := by unfold G.cnt; rw [hct]; omega
  have HG := pq_get h hdk hk9 hok hg ((0 : Nat) : Int)
  have HX := hid (fun x (hx : x ∈ X) => show x.1 < w.heap.size from (Array.getElem?_eq_some_iff.1 (h.other x hx)).1)
  by_cases hE : F.getE s' D' ((0 : Nat) : Int) = 0
  · obtain ⟨pp, hpp⟩ := get_page hg hE
    have hlen := (M.read_ok hpp).2.1
    rw [hE] at HG
    have hgct := (F.get_same s' D' ((0 : Nat) : Int)).2.1
    rw [hct] at hgct
    have hzE : G.mapE s' D' 0 = (if (G.gm c 0 (F.getB s' D' ((0 : Nat) : Int))).isSome then 0 else 22) := by unfold G.mapE; rw [if_pos hE, hcn]
    have hzB : G.mapB s' D' 0 = (G.gm c 0 (F.getB s' D' ((0 : Nat) : Int))).getD [] := by unfold G.mapB; rw [if_pos hE, hcn]
    rw [hzE, hzB]
    show Calls Tryz.prog 80 #[Ptr q, .int .i64 0] w (PGO w0 X p d q r s (F.getS s' D' ((0 : Nat) : Int)) D D' n k c (G.gm c 0 (F.getB s' D' ((0 : Nat) : Int))))
    clear hzE hzB hcn hpp
    generalize F.getE s' D' ((0 : Nat) : Int) = ze at *
    generalize F.getB s' D' ((0 : Nat) : Int) = bs at *
    generalize F.getS s' D' ((0 : Nat) : Int) = s2 at *
    have HG := hid (show Calls Tryz.prog 103 #[Ptr q, .int .i64 0] w (PPw w0 X p d q r s s2 D D' n k (.tuple #[Str bs, .int .i64 0])) from HG)
    have HCT := hid hgct
    have HLb := hid hlen
    unfold Ptr at *
    clear h hE hct hgct hlen hg hok hdk
    go_enter Tryz.func80, Tryz.ntmps80
    go_upto_region 4 with (first | (go_at_call 103; refine HG.out.mono ?_; rintro e w1 ⟨rfl, H1⟩))
    obtain ⟨sc, w2, hcv, hsc, hat2, hA2⟩ := str_256Q bs HLb.out w1
    have HP := hid (rparse9 (some ⟨w1.heap.size, 0, none⟩) bs 256 sc w2 HLb.out hsc hat2)
    have HA2 := hid hA2
    clear hsc hat2 hA2
    unfold Str at *
    go_upto_region 5 with (first | (go_at_call 95; refine HP.out.mono ?_; rintro e w3 ⟨va, vc, hs, rfl, H3⟩))
    obtain ⟨gp, hgp⟩ : ∃ gp, gp = w3.heap.size := ⟨_, rfl⟩
    obtain ⟨kd, hkd⟩ : ∃ kd, kd = (M.kindP bs).toNat := ⟨_, rfl⟩
    rw [← hkd]
    obtain ⟨w4, hw4⟩ : ∃ w4, w4 = w3.alloc (.cells #[.int .i64 (M.noP bs : Int), .int .u8 (kd : Int), .slice va hs.length vc] 104) := ⟨_, rfl⟩
    rw [← hw4, ← hgp]
    have H4 := hid (show Adds w1 w4 ∧ GQ w4 (fun k => w2.heap.size ≤ k) ⟨va, vc, hs⟩ from by rw [hw4]; exact ⟨(HA2.out.trans H3.out.2.2.1).alloc _, H3.out.2.1.adds ((Touch.refl _ w3).alloc _)⟩)
    have g1 : w4.cell? ⟨gp, 1, none⟩ = some (.int .u8 (kd : Int)) := by rw [hw4, hgp, cellOf (heap_alloc_new w3 _)]; rfl
    have g2 : w4.cell? ⟨gp, 2, none⟩ = some (.slice va hs.length vc) := by rw [hw4, hgp, cellOf (heap_alloc_new w3 _)]; rfl
    have HP4 := hid (H1.out.adds H4.out.1)
    obtain ⟨lv, hq4⟩ : ∃ lv, w4.heap[q]? = some (QBox r s2 lv) := by
      obtain ⟨O, OD, OQ, OR, HH⟩ := HP4.out
      obtain ⟨lv, h⟩ := HH.isq
      exact ⟨lv, h.box⟩
    have HSz := hid (show Calls Tryz.prog 40 #[.pointer (some ⟨q, 0, none⟩), .int .i64 0] w4 _ from rsizeZ hq4 HCT.out hc2)
    have HK := hid (And.intro hkd hgp)
    have HCe := hid H3.out.1
    have gq : w4.cell? ⟨q, 2, none⟩ = some (.int .i64 (c : Int)) := by rw [← HCT.out]; exact cellOf hq4 2
    clear hkd hgp hw4 H3 hq4
    go_upto_region 6 with (first | (go_at_call 40; refine HSz.out.mono ?_; rintro e _ ⟨rfl, hw⟩; rw [hw]; clear hw))
    by_cases hk2 : kd = 2
    · have hkz : (kd : Int) = 2 := by omega
      rw [hkz] at g1
      rw [hkz]
      have HK2 := hid (HK.out.1.symm.trans hk2)
      clear hkz hk2
      by_cases hl1 : hs.length = 1
      · obtain ⟨y, rfl⟩ := List.length_eq_one_iff.1 hl1
        obtain ⟨xa, x, xc⟩ := y
        obtain ⟨vb, vo, rfl, _, g3⟩ := H4.out.2.at_ 0 _ rfl
        obtain ⟨L, hL⟩ : ∃ L, L = (c + 7) / 8 := ⟨_, rfl⟩
        have hLz : ((c : Int) + 7) / 8 = (L : Int) := by omega
        have hcz : (c : Int) ≤ 1920 := by omega
        have hcz0 : (0 : Int) ≤ (c : Int) := by omega
        rw [Nat.add_zero] at g3
        have hgm : G.gm c 0 bs = if G.may c 0 x then some x else none := by
          unfold G.gm
          rw [if_pos (UInt8.toNat_inj.1 HK2.out), ← HCe.out]
          rfl
        have hPV : PV ⟨xa, x, xc⟩ = .slice xa x.length xc := rfl
        rw [hPV] at g3
        clear hPV
        obtain ⟨m, hm⟩ : ∃ m, m = x.length := ⟨_, rfl⟩
        rw [← hm] at g3
        simp only [List.length_cons, List.length_nil, Nat.zero_add] at g2 ⊢
        have HGm := hid (And.intro hgm (And.intro hL hm))
        by_cases hxl : m = L
        · subst hxl
          have hxz : ((m : Int) != (m : Int)) = false := by simp
          obtain ⟨xb, xo, rfl, g4⟩ : ∃ xb xo, xa = some ⟨xb, xo, none⟩ ∧ ∀ j b, x[j]? = some b → w4.cell? ⟨xb, xo + j, none⟩ = some (.int .u8 (b.toNat : Int)) := by
            have hq := (H4.out.2.all _ List.mem_cons_self).at_
            have hx0 : 0 < x.length := by omega
            obtain ⟨xb, xo, e, _, _⟩ := hq 0 (B8 x[0]) (by rw [S_get, List.getElem?_eq_getElem hx0]; rfl)
            refine ⟨xb, xo, e, fun j b hj => ?_⟩
            obtain ⟨xb', xo', e', _, h2⟩ := hq j (B8 b) (by rw [S_get, hj]; rfl)
            simp only at e e'
            rw [e] at e'
            cases e'
            exact h2
          have HC := hid g4
          have HG23 := hid (And.intro g2 g3)
          have HN := hid (And.intro hc1 hc2)
          clear hgm hL hm hc1 hc2 hl1 g4
          go_upto_region 9 with fail
          have hm9 : (8 : Int) * (m : Int) ≤ 1927 := by have := HGm.out.2.1; omega
          clear g2 g3 g1 hxz hLz
          go_wp2_with fail
          go_loopw [11, 12] (fun v iv wr => ∃ i : Nat, iv = .int .i64 (i : Int) ∧ i ≤ 8 * m ∧ Hid (Tr w4 wr v (min i c) (G.bit x) ∧ ∀ j, c ≤ j → j < i → G.bit x j = false)) (fun _ iv _ => 8 * m - (intOf iv).toNat)
          case atStart => exact ⟨0, rfl, Nat.zero_le _, ⟨by rw [Nat.zero_min]; exact World.ownsRow_nil _ _ _ _, (fun j e => by cases e), Touch.refl _ _⟩, fun j _ h => by omega⟩
          case round =>
            obtain ⟨i, rfl, hi, HI⟩ := hrel
            have g2 := below_adds HI.out.1.adds HG23.out.1
            have g3 := below_adds HI.out.1.adds HG23.out.2
            by_cases hlt : i < 8 * m
            · have hltz : (i : Int) < 8 * (m : Int) := by omega
              obtain ⟨z, hz⟩ : ∃ z, z = i / 8 := ⟨_, rfl⟩
              have hq : (i : Int) / 8 = (z : Int) := by omega
              have hzm : z < m := by omega
              obtain ⟨cv, hcv⟩ : ∃ cv, x[z]? = some cv := ⟨_, List.getElem?_eq_getElem (by have := HGm.out.2.2; omega)⟩
              have g4 := below_adds HI.out.1.adds (HC.out z cv hcv)
              obtain ⟨u, hu⟩ : ∃ u : Nat, u = cv.toNat := ⟨_, rfl⟩
              rw [← hu] at g4
              have HZ := hid (And.intro hz (And.intro hcv hu))
              clear hz hcv hu
              go_upto_region 13 with fail
              have hbv : (((u : Int) / 2 ^ (i % 8)).tmod 2 == 1) = G.bit x i := by rw [HZ.out.2.2]; exact bit_shr (by rw [← HZ.out.1]; exact HZ.out.2.1)
              rw [hbv]
              clear hbv
              obtain ⟨b, hb⟩ : ∃ b, b = G.bit x i := ⟨_, rfl⟩
              rw [← hb]
              have HB := hid hb
              clear hb
              by_cases hic : i < c
              · have hicz : (i : Int) < (c : Int) := by omega
                have HT := hid (show Tr w4 wr u11 i (G.bit x) by have := HI.out.1; rwa [Nat.min_eq_left (by omega)] at this)
                have HR := hid (own_kept HT.out.rows (show Touch (fun _ => False) wr (wr.alloc (.cells #[.bool b] 4)) from (Touch.refl _ wr).alloc _) (fun _ _ c => c))
                have HC4 := hid (show (wr.alloc (.cells #[.bool b] 4)).cell? ⟨wr.heap.size, 0, none⟩ = some (.bool b) by rw [cellOf (heap_alloc_new wr _)]; rfl)
                go_wp2_with (at_builtin; refine append_t4Z rfl _ _ rfl u11 i ((List.range i).map fun j => Value.bool (G.bit x j)) rfl HR.out wr.heap.size (.bool b) rfl HC4.out rfl (by have := HN.out; omega) ?_; intro v9 w9 hG; have HGr := hid hG; clear hG HR HC4)
                go_roundw
                case rel => exact ⟨i + 1, by go_num, by omega, by rw [Nat.min_eq_left (by omega : i + 1 ≤ c)]; exact HT.out.more (by have := HGr.out; rwa [HB.out] at this), fun j h1 h2 => by omega⟩
                case measure => simp [intOf]; omega
              · have hicz : ¬ (i : Int) < (c : Int) := by omega
                have hicz' : (c : Int) ≤ (i : Int) := by omega
                cases b with
                | true =>
                  have HNo := hid (show G.gm c 0 bs = none by
                    rw [HGm.out.1, if_neg]
                    intro q
                    have := G.may_bit q (i := i) (by have := HGm.out.2.2; omega)
                    unfold G.wrong at this
                    rw [← HB.out] at this
                    simp at this
                    omega)
                  go_wp2_with fail
                  go_ret2
                  exact PGO.no HNo.out ⟨rfl, HP4.out.adds HI.out.1.adds⟩
                | false =>
                  go_wp2_with fail
                  go_roundw
                  case rel => exact ⟨i + 1, by go_num, by omega, by have := HI.out.1; rw [Nat.min_eq_right (by omega)] at this; rw [Nat.min_eq_right (by omega)]; exact this, fun j h1 h2 => by
                    by_cases e : j = i
                    · rw [e]; exact HB.out.symm
                    · exact HI.out.2 j h1 (by omega)⟩
                  case measure => simp [intOf]; omega
            · have hi8 : i = 8 * m := by omega
              have hltz : ¬ (i : Int) < 8 * (m : Int) := by omega
              have hcm : c ≤ i := by have := HGm.out.2.1; omega
              have HT := hid (show Tr w4 wr u11 c (G.bit x) by have := HI.out.1; rwa [Nat.min_eq_right hcm] at this)
              have HZe := hid (fun j (h1 : c ≤ j) (h2 : j < 8 * m) => HI.out.2 j h1 (by omega))
              have HMp := hid (show Calls Tryz.prog 39 #[.int .i64 (c : Int)] wr (Tells (.int .i64 1) wr) by have q := rmapsZ wr c (by have := HN.out.2; omega); rw [G.maps1 HN.out.1 HN.out.2] at q; exact q)
              have gq2 : wr.cell? ⟨q, 2, none⟩ = some (.int .i64 (c : Int)) := below_adds HT.out.adds gq
              rcases HT.out.rows.2 with ⟨_, h0⟩ | ⟨g, cap, cur, rfl, hb, hg, hg1, hg2, hg3, hg4⟩
              · exact absurd h0 (by have := HN.out.1; omega)
              have HRow := hid (And.intro hg (show cur.toList.take c = (List.range c).map (fun i => Value.bool (G.bit x i)) by rw [← hg4, Nat.mul_one]))
              have c0 : wr.cell? ⟨g, 0, none⟩ = some (.bool (G.bit x 0)) := by
                rw [cellOf hg, ← Array.getElem?_toList]
                have q : (cur.toList.take c)[0]? = some (.bool (G.bit x 0)) := by
                  rw [HRow.out.2, List.getElem?_map, List.getElem?_range (by have := HN.out.1; omega)]
                  rfl
                rw [List.getElem?_take, if_pos (by have := HN.out.1; omega)] at q
                exact q
              have hcn : 0 < c := HN.out.1
              obtain ⟨b0, hb0⟩ : ∃ b0, b0 = G.bit x 0 := ⟨_, rfl⟩
              rw [← hb0] at c0
              have HB0 := hid hb0
              have HFI := hid (show PwE w0 wr ((g, .cells cur 4 (0, 0)) :: X) p d q r s s2 D D' n k ∧ w0.heap.size ≤ g ∧ ∀ x ∈ X, x.1 ≠ g from ⟨HP4.out.more HT.out.adds g _ HRow.out.1 (HT.out.own g rfl), by have := HP4.out.base.size; have := HT.out.own g rfl; omega, fun x hx e => by have := (Array.getElem?_eq_some_iff.1 (HP4.out.other x hx)).1; have := HT.out.own g rfl; omega⟩)
              have HPb := hid (HP4.out.adds HT.out.adds)
              clear hb0 hg hg1 hg2 hg3 hg4 hb hcm hi hi8 hlt
              go_wp2_with fail
              go_loopw [14] (fun jv w' => ∃ j : Nat, jv = .int .i64 (j : Int) ∧ j ≤ 1 ∧ w' = wr ∧ (j = 1 → b0 = true)) (fun jv _ => 1 - (intOf jv).toNat)
              case atStart => exact ⟨0, rfl, by decide, rfl, fun h => by cases h⟩
              case round =>
                obtain ⟨j, rfl, hj, rfl, hjb⟩ := hrel
                by_cases hj0 : j = 0
                · subst hj0
                  cases b0 with
                  | true =>
                    go_wp2_with (go_at_call 39; refine HMp.out.mono ?_; rintro e _ ⟨rfl, hw⟩; rw [hw]; clear hw)
                    go_roundw
                    case rel => exact ⟨1, rfl, by decide, by simp, by simp⟩
                    case measure => simp [intOf]
                  | false =>
                    have HNo := hid (show G.gm c 0 bs = none by
                      rw [HGm.out.1, if_neg]
                      intro q
                      have := G.may_bit q (i := 0) (by have := HGm.out.2.2; have := HGm.out.2.1; omega)
                      unfold G.wrong at this
                      rw [← HB0.out, G.maps1 HN.out.1 HN.out.2] at this
                      simp at this)
                    go_wp2_with (go_at_call 39; refine HMp.out.mono ?_; rintro e _ ⟨rfl, hw⟩; rw [hw]; clear hw)
                    go_ret2
                    exact PGO.no HNo.out ⟨rfl, HPb.out⟩
                · obtain rfl : j = 1 := by omega
                  obtain rfl := hjb rfl
                  have HYes := hid (show G.gm c 0 bs = some x by
                    rw [HGm.out.1, if_pos]
                    refine G.may_of (by unfold G.cells G.size; have := HGm.out.2.1; have := HGm.out.2.2; have := HN.out.2; omega) (fun i hi => ?_)
                    have hi2 : i < 8 * m := by have := HGm.out.2.2; omega
                    unfold G.wrong
                    rw [G.maps1 HN.out.1 HN.out.2]
                    by_cases q0 : i = 0
                    · subst q0
                      have := HN.out.1
                      rw [← HB0.out]
                      simp
                      omega
                    · by_cases q1 : c ≤ i
                      · rw [HZe.out i q1 hi2]; simp; omega
                      · simp; omega)
                  go_wp2_with (go_at_call 39; refine HMp.out.mono ?_; rintro e _ ⟨rfl, hw⟩; rw [hw]; clear hw)
                  go_ret2
                  exact PGO.yes HYes.out ⟨g, cap, cur, rfl, HFI.out.1, HRow.out.2, HFI.out.2⟩
        · have hxz : ((m : Int) != (L : Int)) = true := by simp; omega
          have hno : G.gm c 0 bs = none := by
            rw [hgm, if_neg]
            intro q
            have := G.may_len q
            unfold G.cells G.size at this
            omega
          have HNo := hid hno
          clear hgm hL hm hxl hc1 hc2 hl1 hno
          go_wp2_with fail
          go_ret2
          exact PGO.no HNo.out ⟨rfl, HP4.out⟩
      · have hlz : ((hs.length : Int) != 1) = true := by simp; omega
        have hno : G.gm c 0 bs = none := by
          unfold G.gm
          split
          · split
            · rename_i y hy
              have := HCe.out
              rw [hy] at this
              have := congrArg List.length this
              simp at this
              exact absurd this hl1
            · rfl
          · rfl
        have HNo := hid hno
        obtain ⟨m, hm⟩ : ∃ m, m = hs.length := ⟨_, rfl⟩
        rw [← hm] at hlz g2
        rw [← hm]
        clear hno hl1 hm hc1 hc2
        go_wp2_with fail
        go_ret2
        exact PGO.no HNo.out ⟨rfl, HP4.out⟩
    · have hkz : ((kd : Int) != 2) = true := by simp; omega
      have hno : G.gm c 0 bs = none := by
        unfold G.gm
        rw [if_neg (fun e => hk2 (by rw [HK.out.1, e]; rfl))]
      have HNo := hid hno
      clear hno hk2 hc1 hc2
      go_wp2_with fail
      go_ret2
      exact PGO.no HNo.out ⟨rfl, HP4.out⟩
  · have hz2 : G.mapE s' D' 0 = F.getE s' D' ((0 : Nat) : Int) := by unfold G.mapE; rw [if_neg hE]
    have HG := hid HG
    have hE1 : ((F.getE s' D' ((0 : Nat) : Int) : Int) != 0) = true := by simp; omega
    have hE2 : ¬ (F.getE s' D' ((0 : Nat) : Int) : Int) = 0 := by omega
    rw [show PGZ w0 X p d q r s (F.getS s' D' ((0 : Nat) : Int)) D D' n k c (G.mapE s' D' 0) (G.bit (G.mapB s' D' 0)) = PGnZ w0 X p d q r s (F.getS s' D' ((0 : Nat) : Int)) D D' n k (F.getE s' D' ((0 : Nat) : Int)) by funext e w'; unfold PGZ; rw [hz2, if_neg hE]]
    generalize F.getE s' D' ((0 : Nat) : Int) = ze at *
    generalize F.getB s' D' ((0 : Nat) : Int) = bs at *
    generalize F.getS s' D' ((0 : Nat) : Int) = s2 at *
    have HG := hid (show Calls Tryz.prog 103 #[Ptr q, .int .i64 0] w _ from HG.out)
    unfold Ptr at *
    clear h hz2 hE
    go_enter Tryz.func80, Tryz.ntmps80
    go_wp2_with (go_at_call 103; refine HG.out.mono ?_; rintro e w1 ⟨rfl, H1⟩)
    go_ret2
    exact ⟨rfl, H1.out⟩
end Go.Proofs.YtjlennpoaefllaaGreatDoor

/- The reference's Format and Alloc of one map. -/
namespace Go.Proofs.YtjlennpoaefllaaGreatDoor
open Go.RowKit

/-- Truths in a row. -/
def BL (c : Nat) (f : Nat → Bool) : List Value := (List.range c).map (fun i => Value.bool (f i))
set_option maxRecDepth 100000 in
theorem BL_get {c : Nat} {f : Nat → Bool} {i : Nat} (h : i < c) : (BL c f)[i]? = some (.bool (f i)) := by
  unfold BL
  rw [List.getElem?_map, List.getElem?_range h]
  rfl
set_option maxRecDepth 100000 in
theorem BL_set {c : Nat} {f : Nat → Bool} {i : Nat} (b : Bool) : (BL c f).set i (.bool b) = BL c (fun j => if j = i then b else f j) := by
  apply List.ext_getElem?
  intro j
  unfold BL
  rw [List.getElem?_set, List.getElem?_map, List.getElem?_map]
  by_cases hj : j < c
  · rw [List.getElem?_range hj]
    by_cases e : i = j
    · subst e; simp [hj]
    · have : ¬ j = i := fun q => e q.symm
      simp [e, this]
  · have : (List.range c)[j]? = none := List.getElem?_eq_none (by simp; omega)
    rw [this]
    by_cases e : i = j
    · subst e; simp; omega
    · simp [e]
set_option maxRecDepth 100000 in
theorem bl_cell {w : World} {g c : Nat} {cur : Array Value} {f : Nat → Bool} (hg : w.heap[g]? = some (.cells cur 4 (0, 0))) (hc : cur.toList.take c = BL c f) {i : Nat} (hi : i < c) : w.cell? ⟨g, i, none⟩ = some (.bool (f i)) := by
  rw [cellOf hg, ← Array.getElem?_toList]
  have q : (cur.toList.take c)[i]? = some (.bool (f i)) := by rw [hc]; exact BL_get hi
  rw [List.getElem?_take, if_pos hi] at q
  exact q
theorem bl_bat {w : World} {g c : Nat} {cur : Array Value} {f : Nat → Bool} (hg : w.heap[g]? = some (.cells cur 4 (0, 0))) (hc : cur.toList.take c = BL c f) : BAt w g f c := fun _ hi => bl_cell hg hc hi
set_option maxRecDepth 100000 in
theorem bl_set {w : World} {g c : Nat} {cur : Array Value} {f : Nat → Bool} (hg : w.heap[g]? = some (.cells cur 4 (0, 0))) (hc : cur.toList.take c = BL c f) (i : Nat) (b : Bool) : (w.setCell ⟨g, i, none⟩ (.bool b)).heap[g]? = some (.cells (cur.setIfInBounds i (.bool b)) 4 (0, 0)) ∧ (cur.setIfInBounds i (.bool b)).toList.take c = BL c (fun j => if j = i then b else f j) := by
  refine ⟨heap_setCell_same w g i _ 4 _ hg, ?_⟩
  rw [Array.toList_setIfInBounds, List.take_set, hc, BL_set]
set_option maxRecDepth 100000 in
theorem makeB (n : Nat) (h : n ≤ 2000) (w : World) : (Instr.makeSlice 95 (.int .i64 (n : Int)) (.int .i64 (n : Int))).run Tryz.prog w = .ok (.slice (some ⟨w.heap.size, 0, none⟩) n n) (w.alloc (.cells (BL n fun _ => false).toArray 4)) := by
  obtain ⟨i0, hi, hz0, hz1, hz2⟩ := info4Z
  have q := run_make (P := Tryz.prog) w 95 4 i0 (.bool false) Tryz.underlying95 hi hz0 .i64 .i64 n n (by omega) (by omega) (by rw [hz2]; omega) (by omega)
  rw [q, hz1]
  simp only [madeCells, Int.toNat_natCast, Nat.mul_one]
  congr 3
  apply Array.ext
  · simp [BL]
  · intro i h1 h2; simp [Value.cells, Nat.mod_one, BL]
set_option maxRecDepth 100000 in
theorem PwE.cq {w0 w : World} {X : List (Nat × Obj)} {p d q r : Nat} {s s' : F.Po} {D D' : dSt} {n k : Nat} (h : PwE w0 w X p d q r s s' D D' n k) {c : Nat} (hc : s'.ct = (c : Int)) : w.cell? ⟨q, 2, none⟩ = some (.int .i64 (c : Int)) := by
  obtain ⟨O, OD, OQ, OR, h⟩ := h
  obtain ⟨lv, hq⟩ := h.isq
  rw [← hc]
  exact cellOf hq.box 2
set_option maxRecDepth 100000 in
theorem rmaps1 (w : World) {c : Nat} (hc1 : 1 ≤ c) (hc2 : c ≤ 1920) : Calls Tryz.prog 39 #[.int .i64 (c : Int)] w (Tells (.int .i64 1) w) := by
  have q := rmapsZ w c (by omega)
  rw [G.maps1 hc1 hc2] at q
  exact q
set_option maxRecDepth 100000 in
theorem PwE.rsize {w0 w : World} {X : List (Nat × Obj)} {p d q r : Nat} {s s' : F.Po} {D D' : dSt} {n k : Nat} (h : PwE w0 w X p d q r s s' D D' n k) {c : Nat} (hc : s'.ct = (c : Int)) (hc2 : c ≤ 1920) : Calls Tryz.prog 40 #[Ptr q, .int .i64 0] w (Tells (.int .i64 (c : Int)) w) := by
  obtain ⟨O, OD, OQ, OR, h⟩ := h
  obtain ⟨lv, hq⟩ := h.isq
  exact rsizeZ hq.box hc hc2
set_option maxRecDepth 100000 in
set_option maxHeartbeats 4000000 in
theorem rformatZ {w0 w : World} {X : List (Nat × Obj)} {p d q r : Nat} {s s' : F.Po} {D D' : dSt} {n k : Nat} (h : PwE w0 w X p d q r s s' D D' n k) (hg : F.Good s') (hmo : s'.mo ≤ 256) (hnl : F.Nil s') {c : Nat} (hct : s'.ct = (c : Int)) (hc1 : 1 ≤ c) (hc2 : c ≤ 1920) :
    Calls Tryz.prog 14 #[Ptr q] w (PPw w0 X p d q r s (F.putS s' ((0 : Nat) : Int) (G.pg 0 (G.first c 0))) D D' n k (.int .i64 (F.putE s' ((0 : Nat) : Int) (G.pg 0 (G.first c 0)) : Int))) := by
  obtain ⟨S2, hS2⟩ : ∃ S2, S2 = F.putS s' ((0 : Nat) : Int) (G.pg 0 (G.first c 0)) := ⟨_, rfl⟩
  obtain ⟨z, hz⟩ : ∃ z, z = F.putE s' ((0 : Nat) : Int) (G.pg 0 (G.first c 0)) := ⟨_, rfl⟩
  have hct2 : S2.ct = (c : Int) := by rw [hS2, (F.put_same s' _ _).2.1]; exact hct
  have hfst := G.CellOf.first hc1 hc2
  have HPut := hid (fun (w1 : World) (h1 : Adds w w1) (g : Nat) (cur : Array Value) (hB : w1.heap[g]? = some (.cells cur 4 (0, 0)) ∧ cur.toList.take c = BL c (fun j => decide (j < 1))) => show Calls Tryz.prog 41 #[Ptr q, .int .i64 0, .slice (some ⟨g, 0, none⟩) c c] w1 (PPw w0 X p d q r s S2 D D' n k (.int .i64 (z : Int))) by
    rw [hS2, hz]
    exact rputZ (h.adds h1) hg hmo hnl g c c _ (bl_bat hB.1 hB.2) hc1 hc2 _ (by rw [hfst.1]; unfold G.cells G.size; omega) (fun j => by rw [hfst.2 j]; by_cases e : j = 0 <;> simp [e]))
  rw [← hS2, ← hz]
  have HC := hid (fun (w1 : World) (h1 : Adds w w1) => (h.adds h1).cq hct)
  have HC2 := hid (fun (w1 : World) (h1 : PwE w0 w1 X p d q r s S2 D D' n k) => h1.cq hct2)
  have HS := hid (h.rsize hct hc2)
  have HM := hid (fun w1 => rmaps1 w1 hc1 hc2)
  have HN := hid (And.intro hc1 hc2)
  have hmk := makeB c (by omega)
  clear hS2 hz hct2 hfst h hg hmo hnl hct hc2
  have hcn : 0 < c := hc1
  clear hc1
  unfold Ptr at *
  go_enter Tryz.func14, Tryz.ntmps14
  go_wp2_with fail
  go_loopw [3] (fun kv wr => ∃ j : Nat, kv = .int .i64 (j : Int) ∧ j ≤ 1 ∧ Hid ((j = 0 ∧ wr = w) ∨ (j = 1 ∧ z = 0 ∧ PwE w0 wr X p d q r s S2 D D' n k))) (fun kv _ => 1 - (intOf kv).toNat)
  case atStart => exact ⟨0, rfl, by decide, .inl ⟨rfl, rfl⟩⟩
  case round =>
    obtain ⟨j, rfl, hj, HI⟩ := hrel
    rcases HI.out with ⟨rfl, hw⟩ | ⟨rfl, hz0, h2⟩
    · have hw := hw.symm
      subst hw
      have c2 := HC.out w (Touch.refl _ w)
      clear HI
      obtain ⟨gb, hgb⟩ : ∃ gb, gb = w.heap.size := ⟨_, rfl⟩
      obtain ⟨wA, hwA⟩ : ∃ wA, wA = w.alloc (.cells (BL c fun _ => false).toArray 4) := ⟨_, rfl⟩
      have HA := hid (show Adds w wA ∧ wA.heap[gb]? = some (.cells (BL c fun _ => false).toArray 4 (0, 0)) by rw [hwA, hgb]; exact ⟨(Touch.refl _ w).alloc _, heap_alloc_new w _⟩)
      go_upto_region 5 with (first
        | (go_at_call 39; refine (HM.out _).mono ?_; rintro e _ ⟨rfl, hw⟩; rw [hw]; clear hw)
        | (go_at_call 40; refine HS.out.mono ?_; rintro e _ ⟨rfl, hw⟩; rw [hw]; clear hw))
      rw [← hwA, ← hgb]
      have HGB := hid hgb
      clear hwA hgb hmk c2
      go_wp2_with fail
      go_loopw [5] (fun iv w' => ∃ i : Nat, iv = .int .i64 (i : Int) ∧ i ≤ 1 ∧ Hid (Adds w w' ∧ ∃ cur, w'.heap[gb]? = some (.cells cur 4 (0, 0)) ∧ cur.toList.take c = BL c (fun j => decide (j < i)))) (fun iv _ => 1 - (intOf iv).toNat)
      case atStart => exact ⟨0, rfl, by decide, HA.out.1, _, HA.out.2, by rw [show (BL c fun j => decide (j < 0)) = BL c fun _ => false from rfl]; exact List.take_of_length_le (by simp [BL])⟩
      case round =>
        obtain ⟨i, rfl, hi, HJ⟩ := hrel
        have c2 := HC.out _ HJ.out.1
        obtain ⟨hA, cur, hg, hcur⟩ := HJ.out
        by_cases hi0 : i = 0
        · subst hi0
          have hfz : wr.frozen? ⟨gb, 0, none⟩ = false := by simp [World.frozen?, hg]
          have hc0 : wr.cell? ⟨gb, 0, none⟩ = some (.bool false) := bl_cell hg hcur hcn
          have HSt := hid (bl_set hg hcur 0 true)
          clear hg hcur hA
          go_wp2_with (go_at_call 39; refine (HM.out _).mono ?_; rintro e _ ⟨rfl, hw⟩; rw [hw]; clear hw)
          go_roundw
          case rel =>
            refine ⟨1, rfl, by decide, HJ.out.1.then (Touch.setCell (T := fun j => j = gb) (Touch.refl _ wr) (p := ⟨gb, 0, none⟩) (fun _ => rfl) _) (fun j hj e => by have := HGB.out; omega), _, HSt.out.1, ?_⟩
            rw [HSt.out.2]
            congr 1
            funext j
            by_cases e : j = 0 <;> simp [e]
          case measure => simp [intOf]
        · obtain rfl : i = 1 := by omega
          have HP := hid (HPut.out wr hA gb cur ⟨hg, hcur⟩)
          clear hg hcur hA
          by_cases hz0 : z = 0
          · subst hz0
            go_wp2_with (first
              | (go_at_call 39; refine (HM.out _).mono ?_; rintro e _ ⟨rfl, hw⟩; rw [hw]; clear hw)
              | (go_at_call 41; refine HP.out.mono ?_; rintro e w5 ⟨rfl, H5⟩))
            go_roundw
            case rel => exact ⟨1, rfl, by decide, .inr ⟨by first | rfl | trivial, by first | rfl | trivial, H5.out⟩⟩
            case measure => simp [intOf]
          · have hz1 : ((z : Int) != 0) = true := by simp; omega
            have hz2 : ¬ (z : Int) = 0 := by omega
            go_wp2_with (first
              | (go_at_call 39; refine (HM.out _).mono ?_; rintro e _ ⟨rfl, hw⟩; rw [hw]; clear hw)
              | (go_at_call 41; refine HP.out.mono ?_; rintro e w5 ⟨rfl, H5⟩))
            go_ret
            exact ⟨rfl, H5.out⟩
    · have c2 := HC2.out wr h2
      have H2 := hid h2
      subst hz0
      clear h2 HI
      go_wp2_with (go_at_call 39; refine (HM.out _).mono ?_; rintro e _ ⟨rfl, hw⟩; rw [hw]; clear hw)
      go_ret
      exact ⟨rfl, H2.out⟩
end Go.Proofs.YtjlennpoaefllaaGreatDoor

/- The reference's Alloc, Free of one map. -/
namespace Go.Proofs.YtjlennpoaefllaaGreatDoor
open Go.RowKit

set_option maxRecDepth 100000 in
theorem least_is {c k i : Nat} {bs : List UInt8} (h : G.least c k bs = some i) : i < 8 * bs.length ∧ G.isLeft c k bs i = true ∧ ∀ j, j < i → G.isLeft c k bs j = false := by
  unfold G.least at h
  rw [List.find?_range_eq_some] at h
  exact ⟨List.mem_range.1 h.2.1, h.1, fun j hj => by simpa using h.2.2 j hj⟩
theorem least_no {c k : Nat} {bs : List UInt8} (h : G.least c k bs = none) : ∀ j, j < 8 * bs.length → G.isLeft c k bs j = false := fun j hj => by
  unfold G.least at h
  rw [List.find?_eq_none] at h
  simpa using h j (List.mem_range.2 hj)
set_option maxRecDepth 100000 in
/-- A map that may be, as truths. -/
theorem may_cell {c : Nat} {x : List UInt8} (h : G.may c 0 x = true) : G.CellOf c x (G.bit x) := by
  refine ⟨G.may_len h, fun i => ?_⟩
  by_cases q : i < c
  · simp [q]
  · have hb : G.bit x i = false := by
      by_cases q2 : i < 8 * x.length
      · have := G.may_bit h q2
        unfold G.wrong at this
        cases hq : G.bit x i with
        | false => rfl
        | true => rw [hq] at this; simp at this; omega
      · exact G.bit_out (by omega)
    simp [q, hb]
/-- The facts of a map that was got. -/
structure Gt (s' : F.Po) (D' : dSt) (c : Nat) (S1 : F.Po) (x : List UInt8) : Prop where
  st : S1 = F.getS s' D' ((0 : Nat) : Int)
  bx : x = G.mapB s' D' 0
  may : G.may c 0 x = true
  good : F.Good S1
  nil : F.Nil S1
  ct : S1.ct = (c : Int)
  mo : S1.mo ≤ 256
set_option maxRecDepth 100000 in
theorem gt_of {s' : F.Po} {D' : dSt} {c : Nat} (hz : G.mapE s' D' 0 = 0) (hg : F.Good s') (hmo : s'.mo ≤ 256) (hnl : F.Nil s') (hct : s'.ct = (c : Int)) : Gt s' D' c (F.getS s' D' ((0 : Nat) : Int)) (G.mapB s' D' 0) := by
  have hs := F.get_same s' D' ((0 : Nat) : Int)
  have hm := (G.mapB_may hz).2.2.1
  have hcn : G.cnt s' = c := by unfold G.cnt; rw [hct]; omega
  rw [hcn] at hm
  exact ⟨rfl, rfl, hm, hg.get D' _, hnl.get D' _, by rw [hs.2.1]; exact hct, by rw [hs.2.2]; exact hmo⟩
set_option maxRecDepth 100000 in
theorem Gt.len {s' : F.Po} {D' : dSt} {c : Nat} {S1 : F.Po} {x : List UInt8} (h : Gt s' D' c S1 x) (hc2 : c ≤ 1920) : x.length = (c + 7) / 8 ∧ x.length ≤ 240 := by
  have := G.may_len h.may
  unfold G.cells G.size at this
  omega
set_option maxRecDepth 100000 in
/-- A bit more, or less, is put. -/
theorem rputX {w0 w : World} {X : List (Nat × Obj)} {p d q r : Nat} {s s' S1 : F.Po} {D D' : dSt} {n k c g : Nat} {x : List UInt8} {cur : Array Value} (hG : Gt s' D' c S1 x) (hc1 : 1 ≤ c) (hc2 : c ≤ 1920) (h : PwE w0 w ((g, .cells cur 4 (0, 0)) :: X) p d q r s S1 D D' n k) {i : Nat} (hi : i < c) (b : Bool) (hb : b = !G.bit x i) (hcur : cur.toList.take c = BL c (fun j => if j = i then b else G.bit x j)) (cap : Nat) :
    Calls Tryz.prog 41 #[Ptr q, .int .i64 0, .slice (some ⟨g, 0, none⟩) c cap] w (PPw w0 X p d q r s (F.putS S1 ((0 : Nat) : Int) (G.pg 0 (G.flip x i))) D D' n k (.int .i64 (F.putE S1 ((0 : Nat) : Int) (G.pg 0 (G.flip x i)) : Int))) := by
  have hx := hG.len hc2
  have hcl := may_cell hG.may
  refine (rputZ h hG.good hG.mo hG.nil g cap c _ (bl_bat (h.other _ List.mem_cons_self) hcur) hc1 hc2 (G.flip x i) (by rw [G.len_flip]; exact hx.1) (fun j => ?_)).mono ?_
  · rw [G.bit_flip x j (by omega)]
    by_cases e : j = i
    · subst e; simp [hi, hb]
    · rw [if_neg e, if_neg e]; exact hcl.2 j
  · rintro e w' ⟨he, H⟩
    exact ⟨he, H.out.fewer (fun y hy => List.mem_cons_of_mem _ hy)⟩
set_option maxRecDepth 100000 in
/-- A truth of the block turns. -/
theorem PwE.truth {w0 w : World} {X : List (Nat × Obj)} {p d q r : Nat} {s s' : F.Po} {D D' : dSt} {n k g c : Nat} {cur : Array Value} {f : Nat → Bool} (h : PwE w0 w ((g, .cells cur 4 (0, 0)) :: X) p d q r s s' D D' n k) (hg : w0.heap.size ≤ g) (hX : ∀ x ∈ X, x.1 ≠ g) (hcur : cur.toList.take c = BL c f) (i : Nat) (b : Bool) :
    ∃ cur', PwE w0 (w.setCell ⟨g, i, none⟩ (.bool b)) ((g, .cells cur' 4 (0, 0)) :: X) p d q r s s' D D' n k ∧ cur'.toList.take c = BL c (fun j => if j = i then b else f j) := by
  have hT : Touch (fun j => j = g) w (w.setCell ⟨g, i, none⟩ (.bool b)) := Touch.setCell (T := fun j => j = g) (Touch.refl _ w) (p := ⟨g, i, none⟩) (fun _ => rfl) _
  have hb := h.other _ List.mem_cons_self
  obtain ⟨h1, h2⟩ := bl_set hb hcur i b
  refine ⟨_, h.turn hT (fun j e => ⟨⟨_, List.mem_cons_self, e.symm⟩, by rw [e]; exact hg⟩) (fun y hy => ?_), h2⟩
  rcases List.mem_cons.1 hy with rfl | hy
  · exact ⟨⟨_, List.mem_cons_self, rfl⟩, h1⟩
  · exact ⟨⟨y, List.mem_cons_of_mem _ hy, rfl⟩, hT.at' (h.other y (List.mem_cons_of_mem _ hy)) (hX y hy)⟩
set_option maxRecDepth 100000 in
theorem pgz_ok {w0 : World} {X : List (Nat × Obj)} {p d q r : Nat} {s s' : F.Po} {D D' : dSt} {n k c z : Nat} {f : Nat → Bool} (hz : z = 0) : PGZ w0 X p d q r s s' D D' n k c z f = PGmZ w0 X p d q r s s' D D' n k c f := by funext e w'; unfold PGZ; rw [if_pos hz]
set_option maxRecDepth 100000 in
theorem pgz_no {w0 : World} {X : List (Nat × Obj)} {p d q r : Nat} {s s' : F.Po} {D D' : dSt} {n k c z : Nat} {f : Nat → Bool} (hz : ¬ z = 0) : PGZ w0 X p d q r s s' D D' n k c z f = PGnZ w0 X p d q r s s' D D' n k z := by funext e w'; unfold PGZ; rw [if_neg hz]
/-- What Alloc, Free of the reference leave. -/
def PAz (w0 : World) (X : List (Nat × Obj)) (p d q r : Nat) (s : F.Po) (D D' : dSt) (n k : Nat) (R : Int × Nat × F.Po) (e : Ending) (w' : World) : Prop := e = .returned (.tuple #[.int .i64 R.1, .int .i64 (R.2.1 : Int)]) ∧ Hid (PwE w0 w' X p d q r s R.2.2 D D' n k)
set_option maxRecDepth 100000 in
set_option maxHeartbeats 4000000 in
theorem rallocZ {w0 w : World} {X : List (Nat × Obj)} {p d q r : Nat} {s s' : F.Po} {D D' : dSt} {n k k0 : Nat} (h : PwE w0 w X p d q r s s' D D' n k) (hdk : DOk D' k0) (hk9 : k0 ≤ 900) (hok : POk s' D') (hg : F.Good s') (hmo : s'.mo ≤ 256) (hnl : F.Nil s') {c : Nat} (hct : s'.ct = (c : Int)) (hc1 : 1 ≤ c) (hc2 : c ≤ 1920) :
    Calls Tryz.prog 42 #[Ptr q] w (PAz w0 X p d q r s D D' n k (G.allocG D' (G.maps (G.cnt s')) 0 s')) := by
  have hcn : G.cnt s' = c := by unfold G.cnt; rw [hct]; omega
  have HG := rgetZ h hdk hk9 hok hg hct hc1 hc2
  have HM := hid (fun w1 => rmaps1 w1 hc1 hc2)
  have HC := h.cq hct
  rw [hcn, G.maps1 hc1 hc2]
  by_cases hz : G.mapE s' D' 0 = 0
  · have hG := gt_of hz hg hmo hnl hct
    obtain ⟨S1, hS1⟩ : ∃ S1, S1 = F.getS s' D' ((0 : Nat) : Int) := ⟨_, rfl⟩
    obtain ⟨x, hx⟩ : ∃ x, x = G.mapB s' D' 0 := ⟨_, rfl⟩
    rw [← hS1, ← hx] at hG
    rw [pgz_ok hz, ← hS1, ← hx] at HG
    have HG := hid HG
    have HGt := hid hG
    have HN := hid (And.intro hc1 hc2)
    have hxl := hG.len hc2
    cases hl : G.least c 0 x with
    | none =>
      have hall : ∀ i, i < c → G.bit x i = true := fun i hi => by
        have := least_no hl i (by omega)
        unfold G.isLeft at this
        cases hq : G.bit x i with
        | true => rfl
        | false => rw [hq] at this; simp at this; omega
      have hR : G.allocG D' 1 0 s' = (0, 30, S1) := by
        rw [alloc_next (r := 0) (k := 0) hz (by rw [hcn, ← hx]; exact hl), ← hS1]
        rfl
      rw [hR]
      have HAll := hid hall
      clear hR hz hG hS1 hx hall hl hxl hcn h hdk hk9 hok hg hmo hnl hct hc1
      have hc9 : (c : Int) ≤ 1920 := by omega
      unfold Ptr at *
      go_enter Tryz.func42, Tryz.ntmps42
      go_wp2_with fail
      go_loopw [4] (fun kv wr => ∃ j : Nat, kv = .int .i64 (j : Int) ∧ j ≤ 1 ∧ Hid ((j = 0 ∧ wr = w) ∨ (j = 1 ∧ PwE w0 wr X p d q r s S1 D D' n k))) (fun kv _ => 1 - (intOf kv).toNat)
      case atStart => exact ⟨0, rfl, by decide, .inl ⟨rfl, rfl⟩⟩
      case round =>
        obtain ⟨j, rfl, hj, HI⟩ := hrel
        rcases HI.out with ⟨rfl, rfl⟩ | ⟨rfl, h2⟩
        · clear HI
          go_wp2_with (first
            | (go_at_call 39; refine (HM.out _).mono ?_; rintro e _ ⟨rfl, hw⟩; rw [hw]; clear hw)
            | (go_at_call 80; refine HG.out.mono ?_; rintro e w1 ⟨g, cap, cur, rfl, H1⟩))
          go_loopw [7] (fun iv w' => ∃ i : Nat, iv = .int .i64 (i : Int) ∧ i ≤ c ∧ w' = w1) (fun iv _ => c - (intOf iv).toNat)
          case atStart => exact ⟨0, rfl, Nat.zero_le _, rfl⟩
          case round =>
            obtain ⟨i, rfl, hi, rfl⟩ := hrel
            by_cases hlt : i < c
            · have hltz : (i : Int) < (c : Int) := by omega
              have ci : wr.cell? ⟨g, i, none⟩ = some (.bool (G.bit x i)) := bl_cell (H1.out.1.other _ List.mem_cons_self) H1.out.2.1 hlt
              rw [HAll.out i hlt] at ci
              go_wp2_with fail
              go_roundw
              case rel => exact ⟨i + 1, by go_num, by omega, by first | rfl | trivial⟩
              case measure => simp [intOf]; omega
            · have hltz : ¬ (i : Int) < (c : Int) := by omega
              go_wp2_with fail
              go_roundw
              case rel => exact ⟨1, rfl, by decide, .inr ⟨rfl, H1.out.1.fewer (fun y hy => List.mem_cons_of_mem _ hy)⟩⟩
              case measure => simp [intOf]
        · have c2 := h2.cq HGt.out.ct
          have H2 := hid h2
          clear h2 HI
          go_wp2_with (go_at_call 39; refine (HM.out _).mono ?_; rintro e _ ⟨rfl, hw⟩; rw [hw]; clear hw)
          go_ret2
          exact ⟨rfl, H2.out⟩
    | some i0 =>
      obtain ⟨_, hl1, hl2⟩ := least_is hl
      have hi0 : i0 < c ∧ G.bit x i0 = false := by
        unfold G.isLeft at hl1
        simp at hl1
        exact ⟨by omega, hl1.1⟩
      have hall : ∀ i, i < i0 → G.bit x i = true := fun i hi => by
        have := hl2 i hi
        unfold G.isLeft at this
        cases hq : G.bit x i with
        | true => rfl
        | false => rw [hq] at this; simp at this; omega
      have HAll := hid hall
      have HI0 := hid hi0
      obtain ⟨S2, hS2⟩ : ∃ S2, S2 = F.putS S1 ((0 : Nat) : Int) (G.pg 0 (G.flip x i0)) := ⟨_, rfl⟩
      obtain ⟨z, hz2⟩ : ∃ z, z = F.putE S1 ((0 : Nat) : Int) (G.pg 0 (G.flip x i0)) := ⟨_, rfl⟩
      have HP := hid (fun (w1 : World) (g cap : Nat) (cur : Array Value) (h1 : PwE w0 w1 ((g, .cells cur 4 (0, 0)) :: X) p d q r s S1 D D' n k) (hcur : cur.toList.take c = BL c (fun j => if j = i0 then true else G.bit x j)) => show Calls Tryz.prog 41 #[Ptr q, .int .i64 0, .slice (some ⟨g, 0, none⟩) c cap] w1 (PPw w0 X p d q r s S2 D D' n k (.int .i64 (z : Int))) by
        rw [hS2, hz2]
        exact rputX hG hc1 hc2 h1 hi0.1 true (by rw [hi0.2]; rfl) hcur cap)
      have hR : G.allocG D' 1 0 s' = if z = 0 then ((i0 : Int), 0, S2) else (0, z, S2) := by
        by_cases hz0 : z = 0
        · rw [if_pos hz0, alloc_ok (r := 0) (k := 0) hz (by rw [hcn, ← hx]; exact hl) (by rw [← hS1, ← hx, ← hz2]; exact hz0), ← hS1, ← hx, ← hS2]
          simp
        · rw [if_neg hz0, alloc_no (r := 0) (k := 0) hz (by rw [hcn, ← hx]; exact hl) (by rw [← hS1, ← hx, ← hz2]; exact hz0), ← hS1, ← hx, ← hS2, ← hz2]
      rw [hR]
      have hc9 : (c : Int) ≤ 1920 := by omega
      have hi9 : (i0 : Int) < 1920 := by omega
      clear hR hz hG hS1 hx hall hl hl1 hl2 hxl hcn h hdk hk9 hok hg hmo hnl hct hc1 hS2 hz2 hi0
      by_cases hz0 : z = 0
      · subst hz0
        rw [if_pos rfl]
        unfold Ptr at *
        go_enter Tryz.func42, Tryz.ntmps42
        go_wp2_with fail
        go_loopw [4] (fun kv wr => kv = .int .i64 0 ∧ wr = w) (fun _ _ => 0)
        case atStart => exact ⟨rfl, rfl⟩
        case round =>
          obtain ⟨rfl, rfl⟩ := hrel
          go_wp2_with (first
            | (go_at_call 39; refine (HM.out _).mono ?_; rintro e _ ⟨rfl, hw⟩; rw [hw]; clear hw)
            | (go_at_call 80; refine HG.out.mono ?_; rintro e w1 ⟨g, cap, cur, rfl, H1⟩))
          go_loopw [7] (fun iv w' => ∃ i : Nat, iv = .int .i64 (i : Int) ∧ i ≤ i0 ∧ w' = w1) (fun iv _ => c - (intOf iv).toNat)
          case atStart => exact ⟨0, rfl, Nat.zero_le _, rfl⟩
          case round =>
            obtain ⟨i, rfl, hi, rfl⟩ := hrel
            have hltc : i < c := by have := HI0.out.1; omega
            have hltz : (i : Int) < (c : Int) := by omega
            have ci : wr.cell? ⟨g, i, none⟩ = some (.bool (G.bit x i)) := bl_cell (H1.out.1.other _ List.mem_cons_self) H1.out.2.1 hltc
            by_cases hlt : i < i0
            · rw [HAll.out i hlt] at ci
              go_wp2_with fail
              go_roundw
              case rel => exact ⟨i + 1, by go_num, by omega, by first | rfl | trivial⟩
              case measure => simp [intOf]; omega
            · obtain rfl : i = i0 := by omega
              rw [HI0.out.2] at ci
              have hfz : wr.frozen? ⟨g, i, none⟩ = false := by simp [World.frozen?, H1.out.1.other _ List.mem_cons_self]
              obtain ⟨cur', hP', hc'⟩ := H1.out.1.truth H1.out.2.2.1 H1.out.2.2.2 (show cur.toList.take c = BL c (G.bit x) from H1.out.2.1) i true
              have HPP := hid (HP.out _ g cap cur' hP' hc')
              clear hP' hc'
              go_wp2_with (go_at_call 41; refine HPP.out.mono ?_; rintro e w5 ⟨rfl, H5⟩)
              go_ret2
              exact ⟨rfl, H5.out⟩
      · rw [if_neg hz0]
        have hz1 : ((z : Int) != 0) = true := by simp; omega
        have hz2 : ¬ (z : Int) = 0 := by omega
        unfold Ptr at *
        go_enter Tryz.func42, Tryz.ntmps42
        go_wp2_with fail
        go_loopw [4] (fun kv wr => kv = .int .i64 0 ∧ wr = w) (fun _ _ => 0)
        case atStart => exact ⟨rfl, rfl⟩
        case round =>
          obtain ⟨rfl, rfl⟩ := hrel
          go_wp2_with (first
            | (go_at_call 39; refine (HM.out _).mono ?_; rintro e _ ⟨rfl, hw⟩; rw [hw]; clear hw)
            | (go_at_call 80; refine HG.out.mono ?_; rintro e w1 ⟨g, cap, cur, rfl, H1⟩))
          go_loopw [7] (fun iv w' => ∃ i : Nat, iv = .int .i64 (i : Int) ∧ i ≤ i0 ∧ w' = w1) (fun iv _ => c - (intOf iv).toNat)
          case atStart => exact ⟨0, rfl, Nat.zero_le _, rfl⟩
          case round =>
            obtain ⟨i, rfl, hi, rfl⟩ := hrel
            have hltc : i < c := by have := HI0.out.1; omega
            have hltz : (i : Int) < (c : Int) := by omega
            have ci : wr.cell? ⟨g, i, none⟩ = some (.bool (G.bit x i)) := bl_cell (H1.out.1.other _ List.mem_cons_self) H1.out.2.1 hltc
            by_cases hlt : i < i0
            · rw [HAll.out i hlt] at ci
              go_wp2_with fail
              go_roundw
              case rel => exact ⟨i + 1, by go_num, by omega, by first | rfl | trivial⟩
              case measure => simp [intOf]; omega
            · obtain rfl : i = i0 := by omega
              rw [HI0.out.2] at ci
              have hfz : wr.frozen? ⟨g, i, none⟩ = false := by simp [World.frozen?, H1.out.1.other _ List.mem_cons_self]
              obtain ⟨cur', hP', hc'⟩ := H1.out.1.truth H1.out.2.2.1 H1.out.2.2.2 (show cur.toList.take c = BL c (G.bit x) from H1.out.2.1) i true
              have HPP := hid (HP.out _ g cap cur' hP' hc')
              clear hP' hc'
              go_wp2_with (go_at_call 41; refine HPP.out.mono ?_; rintro e w5 ⟨rfl, H5⟩)
              go_ret2
              exact ⟨rfl, H5.out⟩
  · have hR : G.allocG D' 1 0 s' = (0, G.mapE s' D' 0, F.getS s' D' ((0 : Nat) : Int)) := alloc_bad (r := 0) (k := 0) hz
    rw [hR]
    rw [pgz_no hz] at HG
    have HG := hid HG
    have hz1 : ((G.mapE s' D' 0 : Int) != 0) = true := by simp; omega
    have hz2 : ¬ (G.mapE s' D' 0 : Int) = 0 := by omega
    generalize G.mapE s' D' 0 = z at *
    generalize F.getS s' D' ((0 : Nat) : Int) = S1 at *
    clear hR hz hcn h hdk hk9 hok hg hmo hnl hct hc1
    unfold Ptr at *
    go_enter Tryz.func42, Tryz.ntmps42
    go_wp2_with fail
    go_loopw [4] (fun kv wr => kv = .int .i64 0 ∧ wr = w) (fun _ _ => 0)
    case atStart => exact ⟨rfl, rfl⟩
    case round =>
      obtain ⟨rfl, rfl⟩ := hrel
      go_wp2_with (first
        | (go_at_call 39; refine (HM.out _).mono ?_; rintro e _ ⟨rfl, hw⟩; rw [hw]; clear hw)
        | (go_at_call 80; refine HG.out.mono ?_; rintro e w1 ⟨rfl, H1⟩))
      go_ret2
      exact ⟨rfl, H1.out⟩
end Go.Proofs.YtjlennpoaefllaaGreatDoor

/- A blob by definition: how many pages it has, their cells; each call of a blob over a pool's state. -/
namespace Go.Proofs.YtjlennpoaefllaaGreatDoor.K

/-- How many pages n bytes have; how many of n bytes the first i pages have. -/
def pages (n : Nat) : Nat := if n ≤ 234 then 1 else 2 + (n - 235) / 238
def inP (i n : Nat) : Nat := if i = 0 then 0 else min (234 + 238 * (i - 1)) n
/-- The i-th share of bytes. -/
def share (b : List UInt8) (i : Nat) : List UInt8 := (b.take (inP (i + 1) b.length)).drop (inP i b.length)
/-- The number of the page that comes behind the i-th one. -/
def nxt (nos : List Int) (i : Nat) : Int := nos.getD (i + 1) 0
/-- A page's cell ahead of its share. -/
def hd (nx n i : Nat) : List UInt8 := if i = 0 then M.fix nx 4 ++ M.fix n 4 else M.fix nx 4
def cell (nos : List Int) (b : List UInt8) (i : Nat) : List UInt8 := hd (nxt nos i).toNat b.length i ++ share b i
/-- A page. -/
def pgP (no : Nat) (x : List UInt8) : M.Pg := ⟨no, 4, [x]⟩
def pg (no : Nat) (x : List UInt8) : List UInt8 := M.pbytes (pgP no x)
theorem pg_ok {k : Nat} {x : List UInt8} (hk : k < 2147483648) (hx : x.length ≤ 242) : (pgP k x).Ok := ⟨hk, by show (4 : UInt8) ≠ 0; decide, by show M.taken [x] ≤ 244; rw [M.taken_one]; omega⟩
theorem pg_read {k : Nat} {x : List UInt8} (hk : k < 2147483648) (hx : x.length ≤ 242) : M.readP (pg k x) = some (pgP k x) := M.read_pbytes (pg_ok hk hx)
theorem pg_len {k : Nat} {x : List UInt8} (hx : x.length ≤ 242) : (pg k x).length = 256 := M.len_pbytes (by show M.taken [x] ≤ 244; rw [M.taken_one]; omega)
theorem pg_kind {k : Nat} {x : List UInt8} (hk : k < 2147483648) (hx : x.length ≤ 242) : M.kindP (pg k x) = 4 := M.kind_put (pg_ok hk hx)
theorem pg_cells {k : Nat} {x : List UInt8} (hk : k < 2147483648) (hx : x.length ≤ 242) : M.cellsP (pg k x) = [x] := M.cells_put (pg_ok hk hx)
/-! ### A blob's calls -/
/-- A blob's page that is got: the answer, its cell. -/
def cellE (s : F.Po) (D : dSt) (no : Int) : Nat := if F.getE s D no = 0 then (if M.kindP (F.getB s D no) = 4 ∧ (M.cellsP (F.getB s D no)).length = 1 then 0 else 22) else F.getE s D no
def cellB (s : F.Po) (D : dSt) (no : Int) : List UInt8 := if cellE s D no = 0 then (M.cellsP (F.getB s D no)).headD [] else []
/-- What a cell says: how many bytes stand ahead of its share; the next one's number; the blob's size. -/
def ahead (l : Nat) : Nat := if l = 0 then 8 else 4
def sizeOf (l : Nat) (c : List UInt8) (size : Nat) : Nat := if l = 0 then M.unfix ((c.drop 4).take 4) else size
set_option maxRecDepth 100000 in
theorem cell_len {s : F.Po} {D : dSt} {no : Int} : (cellB s D no).length ≤ 242 := by
  unfold cellB
  split
  · cases hR : M.readP (F.getB s D no) with
    | none => rw [(M.none_all hR).2.2.1]; simp
    | some p =>
      rw [(M.some_all hR).2.2.1]
      cases hc : p.cells with
      | nil => simp
      | cons x xs =>
        have h1 := (M.read_ok hR).1.room
        rw [hc, M.taken] at h1
        simp at h1
        show x.length ≤ 242
        omega
  · simp
end Go.Proofs.YtjlennpoaefllaaGreatDoor.K
