/- Texts put together: FQ6b, FQ7, FQ8, FQ9, FWorks2, DSpoil, FR0. -/
import Derived.Test.YtjlennpoaefllaaGreatDoorQ31
import Derived.Test.YtjlennpoaefllaaGreatDoorQ19
import Derived.Test.YtjlennpoaefllaaGreatDoorQ20
import Derived.Test.YtjlennpoaefllaaGreatDoorQ22
import Derived.Test.YtjlennpoaefllaaGreatDoorQ27
import Derived.Test.YtjlennpoaefllaaGreatDoorQ16
/- The reference's call Get, of a page that is not held. -/
namespace Go.Proofs.YtjlennpoaefllaaGreatDoor
open Go.RowKit

set_option maxRecDepth 100000 in
theorem IsRO.has {w : World} {O : Nat → Prop} {r : Nat} {D : dSt} (h : IsRO w O r D) (i : Int) : (hasOf D.H D.W i).length = 256 := by
  obtain ⟨hv, wv, hd, _⟩ := h
  exact hasOf_len i hd.good D.W hd.goodW
end Go.Proofs.YtjlennpoaefllaaGreatDoor

/- The reference's call Put. -/
namespace Go.Proofs.YtjlennpoaefllaaGreatDoor
open Go.RowKit

theorem list_storeFr {w : World} {ops : Array Oper} {rest : List Oper} {o : Oper} {act : Act} {Q : Exit → Act → World → Prop} (hgd : o.guard = none) (x y : Operand) (ho : o.op = .store 136 x y) (b : Nat) (f : F.Fr) (old : Array Value) (hx : act.eval x = .pointer (some ⟨b, 0, none⟩)) (hy : act.eval y = .agg (fc f).toArray) (hb : w.heap[b]? = some (.cells old 136 (0, 0))) (hs : old.size = 5)
    (h : wpList Tryz.prog ops Q rest (act.put o.dst undef) (w.setRow b (fc f).toArray)) : wpList Tryz.prog ops Q (o :: rest) act w :=
  wpList_plain hgd fun _ hK => wp_store_row x y 136 ho b (fc f).toArray old 136 hx hy hb (infoFr f) (by rw [hs]; rfl) (all_oneCell_toArray (one_fc f)) (hK _ _ h)
/-- The frame that a page had, or a new one. -/
def F.had (s : F.Po) (no : Int) : F.Fr := match F.at? s.L no with
  | some f => f
  | none => ⟨no, [], [], false, false⟩
/-- What it was is kept. -/
def F.kp (f : F.Fr) : F.Fr := if f.dirty && !f.fresh then { f with was := f.now } else f
set_option maxRecDepth 100000 in
theorem had_put {s : F.Po} (hn : F.Nil s) (no : Int) (bs : List UInt8) : ({ F.kp (F.had s no) with now := F.nw bs, fresh := true } : F.Fr) = ⟨no, F.nw bs, F.wasB s no, true, F.wasD s no⟩ := by
  unfold F.had F.wasB F.wasD
  cases ha : F.at? s.L no with
  | none => rfl
  | some f =>
    have hm := F.at_mem ha
    show ({ F.kp f with now := F.nw bs, fresh := true } : F.Fr) = ⟨no, F.nw bs, if f.fresh then f.was else if f.dirty then f.now else [], true, f.dirty⟩
    have hw := hn f hm.1
    rw [← hm.2]
    unfold F.kp
    cases h1 : f.fresh <;> cases h2 : f.dirty
    · rw [h1, h2] at hw
      simp [h2, hw]
    · simp
    · simp [h2]
    · simp [h2]
set_option maxRecDepth 100000 in
set_option maxHeartbeats 2000000 in
theorem qput_bad {w : World} {O : Nat → Prop} {q r : Nat} {s : F.Po} {lv : Value} (h : QAt w O q r s lv) (no : Int) (hno : F.inPool s no = false) (a : Option Addr) (n cap : Nat) : Calls Tryz.prog 54 #[Ptr q, .int .i64 no, .slice a n cap] w (PQ11 w O q r s (.int .i64 2)) := by
  have c2 : w.cell? ⟨q, 2, none⟩ = some (.int .i64 s.ct) := cellOf h.box 2
  have HQ := hid (PQ11.same (show IsQ w O q r s from ⟨lv, h⟩) (Touch.refl _ w) (.int .i64 2))
  clear h
  have h3 : no < 0 ∨ s.ct ≤ no := by
    unfold F.inPool at hno
    simp at hno
    omega
  clear hno
  unfold Ptr at *
  by_cases h1 : no < 0
  · have d1 : decide (no < 0) = true := by simpa using h1
    go_enter Tryz.func54, Tryz.ntmps54
    go_wp2_with fail
    go_ret
    exact HQ.out
  · have d1 : decide (no < 0) = false := by simpa using h1
    have d2 : decide (s.ct ≤ no) = true := by simp; omega
    go_enter Tryz.func54, Tryz.ntmps54
    go_wp2_with fail
    go_ret
    exact HQ.out
set_option maxRecDepth 100000 in
set_option maxHeartbeats 2000000 in
theorem qput_none {w : World} {O : Nat → Prop} {q r : Nat} {s : F.Po} {lv : Value} (h : QAt w O q r s lv) (no : Int) (hno : F.inPool s no = true) (a : Option Addr) (bs : List UInt8) (n cap : Nat) (hR : M.readP bs = none) (hn : bs.length = n) (hc : n ≤ cap) (hA : At w a bs) : Calls Tryz.prog 54 #[Ptr q, .int .i64 no, .slice a n cap] w (PQ11 w O q r s (.int .i64 22)) := by
  have c2 : w.cell? ⟨q, 2, none⟩ = some (.int .i64 s.ct) := cellOf h.box 2
  have h3 : 0 ≤ no ∧ no < s.ct := by simpa [F.inPool] using hno
  have d1 : decide (no < 0) = false := by simp; omega
  have d2 : decide (s.ct ≤ no) = false := by simp; omega
  have HP := hid (rparse9_none hR a n cap w hn hc hA)
  have HQ := hid (fun w' (hA : Adds w w') => PQ11.same (show IsQ w O q r s from ⟨lv, h⟩) hA (.int .i64 22))
  clear h hno h3 hR hn hc hA
  unfold Ptr at *
  go_enter Tryz.func54, Tryz.ntmps54
  go_wp2_with (first | (go_at_call 95; refine HP.out.mono ?_; rintro e w1 ⟨va, vc, rfl, hA1⟩; have HA1 := hid hA1; clear hA1))
  go_ret
  exact HQ.out _ (HA1.out.alloc _)
set_option maxRecDepth 100000 in
set_option maxHeartbeats 2000000 in
theorem qput_stale {w : World} {O : Nat → Prop} {q r : Nat} {s : F.Po} {lv : Value} (h : QAt w O q r s lv) (no : Int) (hno : F.inPool s no = true) (a : Option Addr) (bs : List UInt8) (n cap : Nat) (p : M.Pg) (hR : M.readP bs = some p) (hp : (p.no : Int) ≠ no) (hn : bs.length = n) (hc : n ≤ cap) (hA : At w a bs) : Calls Tryz.prog 54 #[Ptr q, .int .i64 no, .slice a n cap] w (PQ11 w O q r s (.int .i64 23)) := by
  have c2 : w.cell? ⟨q, 2, none⟩ = some (.int .i64 s.ct) := cellOf h.box 2
  have h3 : 0 ≤ no ∧ no < s.ct := by simpa [F.inPool] using hno
  have d1 : decide (no < 0) = false := by simp; omega
  have d2 : decide (s.ct ≤ no) = false := by simp; omega
  have HP := hid (rparse9_some hR a n cap w hn hc hA)
  have hcn := (M.read_ok hR).1.count.1
  obtain ⟨N, hN⟩ : ∃ N, N = p.cells.length := ⟨_, rfl⟩
  rw [← hN] at HP hcn
  have hne : ((p.no : Int) != no) = true := by simpa using hp
  have HQ := hid (fun w' (hA : Adds w w') => PQ11.same (show IsQ w O q r s from ⟨lv, h⟩) hA (.int .i64 23))
  clear h hno h3 hR hn hc hA hN hp
  unfold Ptr at *
  go_enter Tryz.func54, Tryz.ntmps54
  go_wp2_with (first | (go_at_call 95; refine HP.out.mono ?_; rintro e w1 ⟨va, vc, hs, rfl, H1⟩))
  go_ret
  exact HQ.out _ (H1.out.2.2.1.alloc _)
set_option maxRecDepth 100000 in
set_option maxHeartbeats 2000000 in
theorem qput_busy {w : World} {O : Nat → Prop} {q r : Nat} {s : F.Po} {lv : Value} (h : QAt w O q r s lv) (hl : s.L.length ≤ 9000) (no : Int) (hno : F.inPool s no = true) (a : Option Addr) (bs : List UInt8) (n cap : Nat) (p : M.Pg) (hR : M.readP bs = some p) (hp : (p.no : Int) = no) (hn : bs.length = n) (hc : n ≤ cap) (hA : At w a bs) (he : F.idx s.L no = -1) (ho : F.outI s = -2) : Calls Tryz.prog 54 #[Ptr q, .int .i64 no, .slice a n cap] w (PQ11 w O q r s (.int .i64 33)) := by
  have c2 : w.cell? ⟨q, 2, none⟩ = some (.int .i64 s.ct) := cellOf h.box 2
  have h3 : 0 ≤ no ∧ no < s.ct := by simpa [F.inPool] using hno
  have d1 : decide (no < 0) = false := by simp; omega
  have d2 : decide (s.ct ≤ no) = false := by simp; omega
  have HP := hid (rparse9_some hR a n cap w hn hc hA)
  have hcn := (M.read_ok hR).1.count.1
  obtain ⟨N, hN⟩ : ∃ N, N = p.cells.length := ⟨_, rfl⟩
  rw [← hN] at HP hcn
  have hne : ((p.no : Int) != no) = false := by simpa using hp
  have HF := hid (fun w' (hA : Adds w w') => show Calls Tryz.prog 84 #[.pointer (some ⟨q, 0, none⟩), .int .i64 no] w' (Tells (.int .i64 (-1)) w') by rw [← he]; exact qfind_any (h.adds hA) no (by omega))
  have HOu := hid (fun w' (hA : Adds w w') => show Calls Tryz.prog 96 #[.pointer (some ⟨q, 0, none⟩)] w' (Adding (.int .i64 (-2)) w') by rw [← ho]; exact qout_any (h.adds hA) (by omega))
  have HQ := hid (fun w' (hA : Adds w w') => PQ11.same (show IsQ w O q r s from ⟨lv, h⟩) hA (.int .i64 33))
  clear h hno h3 hR hn hc hA hN he ho
  unfold Ptr at *
  go_enter Tryz.func54, Tryz.ntmps54
  go_upto_region 9 with (first | (go_at_call 95; refine HP.out.mono ?_; rintro e w1 ⟨va, vc, hs, rfl, H1⟩))
  have HA3 := hid (show Adds w ((w1.alloc (.cells #[.int .i64 no, .int .u8 (p.kind.toNat : Int), .slice va N vc] 104)).alloc (.cells #[.int .i64 no, .string ⟨#[]⟩, .string ⟨#[]⟩, .bool false, .bool false] 136)) from (H1.out.2.2.1.alloc _).alloc _)
  generalize (w1.alloc (.cells #[.int .i64 no, .int .u8 (p.kind.toNat : Int), .slice va N vc] 104)).alloc (.cells #[.int .i64 no, .string ⟨#[]⟩, .string ⟨#[]⟩, .bool false, .bool false] 136) = w3 at HA3 ⊢
  go_wp2_with (first
    | (go_at_call 84; refine (HF.out w3 HA3.out).mono ?_; rintro e _ ⟨rfl, hw⟩; rw [hw]; clear hw)
    | (go_at_call 96; refine (HOu.out w3 HA3.out).mono ?_; rintro e w4 ⟨rfl, hA4⟩; have HA4 := hid (HA3.out.trans hA4); clear hA4))
  go_ret
  exact HQ.out _ HA4.out
set_option maxRecDepth 100000 in
set_option maxHeartbeats 4000000 in
theorem qput_ok {w : World} {O : Nat → Prop} {q r : Nat} {s : F.Po} {lv : Value} (h : QAt w O q r s lv) (hO : ∀ k, O k → k < w.heap.size) (hl : s.L.length ≤ 9000) (no : Int) (hno : F.inPool s no = true) (a : Option Addr) (bs : List UInt8) (n cap : Nat) (p : M.Pg) (hR : M.readP bs = some p) (hp : (p.no : Int) = no) (hn : bs.length = n) (hc : n ≤ cap) (hA : At w a bs)
    (ix j : Int) (f0 : F.Fr) (hix : F.idx s.L no = ix) (hjl : j < (s.L.length : Int)) (hC : (∃ i : Nat, ∃ hi : i < s.L.length, ix = (i : Int) ∧ j = (i : Int) ∧ f0 = s.L[i]) ∨ (ix = -1 ∧ F.outI s = j ∧ j ≠ -2 ∧ f0 = ⟨no, [], [], false, false⟩)) (f2 : F.Fr) (hf2 : f2 = { F.kp f0 with now := F.nw bs, fresh := true }) :
    Calls Tryz.prog 54 #[Ptr q, .int .i64 no, .slice a n cap] w (PQ11 w O q r { s with L := F.cutI s.L j ++ [f2] } (.int .i64 0)) := by
  have c2 : w.cell? ⟨q, 2, none⟩ = some (.int .i64 s.ct) := cellOf h.box 2
  have h3 : 0 ≤ no ∧ no < s.ct := by simpa [F.inPool] using hno
  have d1 : decide (no < 0) = false := by simp; omega
  have d2 : decide (s.ct ≤ no) = false := by simp; omega
  have HP := hid (rparse9_some hR a n cap w hn hc hA)
  have hcn := (M.read_ok hR).1.count.1
  have hno31 := (M.read_ok hR).1.no
  have HNo := hid (And.intro hno31 (M.read_ok hR).1.room)
  have HNw := hid (show F.nw bs = M.pbytes p by unfold F.nw; rw [hR])
  have HLb := hid (F.nw_len hR)
  obtain ⟨N, hN⟩ : ∃ N, N = p.cells.length := ⟨_, rfl⟩
  rw [← hN] at HP hcn
  have hne : ((p.no : Int) != no) = false := by simpa using hp
  have HF := hid (fun w' (hA : Adds w w') => show Calls Tryz.prog 84 #[.pointer (some ⟨q, 0, none⟩), .int .i64 no] w' (Tells (.int .i64 ix) w') by rw [← hix]; exact qfind_any (h.adds hA) no (by omega))
  have HOu := hid (fun w' (hA : Adds w w') (ho : F.outI s = j) => show Calls Tryz.prog 96 #[.pointer (some ⟨q, 0, none⟩)] w' (Adding (.int .i64 j) w') by rw [← ho]; exact qout_any (h.adds hA) (by omega))
  have HDr := hid (fun w' (hA : Adds w w') => show Calls Tryz.prog 97 #[.pointer (some ⟨q, 0, none⟩), .int .i64 j] w' (PQ11 w' O q r { s with L := F.cutI s.L j } (.tuple #[])) from qdrop_any (h.adds hA) (by omega) j hjl)
  have HQ := hid h
  have HOO := hid hO
  have HC := hid hC
  have HLl := hid hl
  have HF2 := hid hf2
  clear h hno h3 hR hn hc hA hix hC hO hl hjl hf2 hno31 hp hN
  unfold Ptr at *
  go_enter Tryz.func54, Tryz.ntmps54
  go_upto_region 9 with (first | (go_at_call 95; refine HP.out.mono ?_; rintro e w1 ⟨va, vc, hs, rfl, H1⟩))
  obtain ⟨w3, hw3⟩ : ∃ w3, w3 = (w1.alloc (.cells #[.int .i64 (p.no : Int), .int .u8 (p.kind.toNat : Int), .slice va N vc] 104)).alloc (.cells #[.int .i64 no, .string ⟨#[]⟩, .string ⟨#[]⟩, .bool false, .bool false] 136) := ⟨_, rfl⟩
  obtain ⟨b7, hb7⟩ : ∃ b7, b7 = w1.heap.size := ⟨_, rfl⟩
  obtain ⟨b9, hb9⟩ : ∃ b9, b9 = w1.heap.size + 1 := ⟨_, rfl⟩
  have HA3 := hid (show Adds w w3 by rw [hw3]; exact (H1.out.2.2.1.alloc _).alloc _)
  have HB7 := hid (show w3.heap[b7]? = some (.cells #[.int .i64 (p.no : Int), .int .u8 (p.kind.toNat : Int), .slice va N vc] 104 (0, 0)) by rw [hw3, hb7]; exact heap_alloc2_old w1 _ _)
  have HB9 := hid (show w3.heap[b9]? = some (.cells #[.int .i64 no, .string ⟨#[]⟩, .string ⟨#[]⟩, .bool false, .bool false] 136 (0, 0)) by rw [hw3, hb9]; exact heap_alloc2_new w1 _ _)
  have HG1 := hid (show GQ w1 (fun k => w.heap.size ≤ k ∧ k < w1.heap.size) ⟨va, vc, hs⟩ from H1.out.2.1.mono (fun k hk c => ⟨c, hk⟩))
  have HZ1 := hid (And.intro (And.intro hb7 hb9) H1.out.2.2.1.size)
  have HA13 := hid (show Adds w1 w3 by rw [hw3]; exact ((Touch.refl _ w1).alloc _).alloc _)
  have HHs := hid (And.intro H1.out.1 H1.out.2.2.2)
  rw [← hw3, ← hb9, ← hb7]
  clear hw3 hb7 hb9
  go_upto_if 38 with (first
    | (go_at_call 84; refine (HF.out w3 HA3.out).mono ?_; rintro e _ ⟨rfl, hw⟩; rw [hw]; clear hw))
  go_cut [10] from 39 to 77 (fun t10 w' => t10 = .int .i64 j ∧ Hid (w'.heap[b9]? = some (.cells (fc f0).toArray 136 (0, 0)) ∧ Touch (fun k => k = b9) w3 w'))
  case first =>
    rcases HC.out with ⟨i, hi, rfl, rfl, hf0⟩ | ⟨rfl, ho, hj, hf0⟩
    · have hi0 : decide ((i : Int) < 0) = false := by simp
      have hq3 := HQ.out.adds HA3.out
      obtain ⟨ao, ca, elv, hcap, hat⟩ := hq3.at'
      obtain ⟨g, ea, hob, hcc, hfz⟩ := hat (by omega)
      subst ea
      have hrr : Hid (w3.rangeAt g (i * 5) (fc f0)) := fun j v hv => by
        have hj : j < 5 := (List.getElem?_eq_some_iff.1 hv).1
        rw [hcc i hi j hj, ← hf0]
        exact hv
      obtain ⟨sl, hsl⟩ : ∃ sl, sl = s.L.length := ⟨_, rfl⟩
      have d4 : w3.cell? ⟨q, 4, none⟩ = some (.slice (some ⟨g, 0, none⟩) sl ca) := by have c := cellOf hq3.box 4; rw [elv] at c; rw [hsl]; exact c
      have hil : i < sl := by rw [hsl]; exact hi
      have hll : sl ≤ 9000 := by rw [hsl]; exact HLl.out
      have hi53 := hid (infoFr f0)
      clear hq3 hat hcc hfz hob elv hcap hsl hf0
      go_wp2_with (first
        | (refine wpList_load_mid rfl 136 _ rfl g (i * 5) rfl (fc f0) _ hrr.out Tryz.underlying136 rfl hi53.out ?_)
        | (refine list_storeFr rfl (.tmp 9) (.tmp 49) rfl b9 f0 _ rfl rfl HB9.out rfl ?_))
      go_meet
      case rel => exact ⟨rfl, setRow_heap w3 b9 _ _ 136 (0, 0) HB9.out, (Touch.refl (fun k => k = b9) w3).setRow (fun _ => rfl) _⟩
    · have hi0 : decide ((-1 : Int) < 0) = true := by decide
      have hj2 : (j == -2) = false := by simpa using hj
      have HO2 := hid (HOu.out w3 HA3.out ho)
      go_wp2_with (first
        | (go_at_call 96; refine HO2.out.mono ?_; rintro e w4 ⟨rfl, hA4⟩; have HA4 := hid hA4; clear hA4))
      go_meet
      case rel => exact ⟨rfl, by rw [hf0]; exact HA4.out.at' HB9.out id, HA4.out.mono (fun _ _ c => c.elim)⟩
  case rest =>
    rename World => w4
    obtain ⟨rfl, H4⟩ := hcut
    have HA4 := hid (show Adds w w4 from HA3.out.then H4.out.2 (fun k hk e => by have := HZ1.out; omega))
    have h79 : b7 ≠ b9 := by have := HZ1.out.1; omega
    have HB74 := hid (H4.out.2.at' HB7.out h79)
    have HG4 := hid (show GQ w4 (fun k => w.heap.size ≤ k ∧ k < w1.heap.size) ⟨va, vc, hs⟩ from (HG1.out.adds HA13.out).touch H4.out.2 (fun k hk e => by have := HZ1.out; omega))
    have HD4 := hid (HDr.out w4 HA4.out)
    have HB94 := hid H4.out.1
    have HZ4 := hid (show b9 < w4.heap.size from (Array.getElem?_eq_some_iff.1 H4.out.1).1)
    clear h79
    go_upto_region 16 with (first | (go_at_call 97; refine HD4.out.mono ?_; rintro e w6a ⟨rfl, H6⟩))
    obtain ⟨O6, ⟨lv6, hq6⟩, hT6, hO6⟩ := H6.out
    have HQ6 := hid hq6
    have hnO : ∀ k, w.heap.size ≤ k → k < w4.heap.size → ¬ O6 k := fun k h1 h2 c => by
      rcases hO6 k c with c | c
      · have := HOO.out k c; omega
      · omega
    have hnO0 : ∀ k, w.heap.size ≤ k → ¬ O k := fun k h1 c => by have := HOO.out k c; omega
    have HnO := hid hnO
    have hz9 : w.heap.size ≤ b9 ∧ w.heap.size ≤ b7 ∧ b7 < w4.heap.size := by have := HZ1.out; have := HZ4.out; omega
    have HZ9 := hid hz9
    have HB76 := hid (hT6.at' HB74.out (hnO0 b7 hz9.2.1))
    have HB96 := hid (hT6.at' HB94.out (hnO0 b9 hz9.1))
    have HG6 := hid (show GQ w6a (fun k => w.heap.size ≤ k ∧ k < w1.heap.size) ⟨va, vc, hs⟩ from HG4.out.touch hT6 (fun k hk => hnO0 k hk.1))
    have HQs := hid (show Qs w O w6a O6 from (Qs.adds O HA4.out).trans ⟨hT6, hO6⟩)
    clear hq6 hT6 hO6 hnO hnO0 hz9
    have c4 : w6a.cell? ⟨b9, 4, none⟩ = some (.bool f0.dirty) := cellOf HB96.out 4
    have c3 : w6a.cell? ⟨b9, 3, none⟩ = some (.bool f0.fresh) := cellOf HB96.out 3
    have c22 : w6a.cell? ⟨b9, 2, none⟩ = some (.string ⟨f0.was.toArray⟩) := cellOf HB96.out 2
    have c1 : w6a.cell? ⟨b9, 1, none⟩ = some (.string ⟨f0.now.toArray⟩) := cellOf HB96.out 1
    have fz2 := frozen_of_row w6a b9 2 _ 136 HB96.out
    obtain ⟨f1, hf1⟩ : ∃ f1, f1 = F.kp f0 := ⟨_, rfl⟩
    rw [← hf1] at HF2
    have HF1 := hid hf1
    clear hf1
    go_cut [59] from 53 to 77 (fun t59 w' => t59 = .bool (f0.dirty && !f0.fresh) ∧ w' = w6a)
    case first =>
      cases hdi : f0.dirty with
      | false =>
        rw [hdi] at c4
        go_wp2_with fail
        go_meet
        case rel => exact ⟨by rw [hdi]; rfl, rfl⟩
      | true =>
        rw [hdi] at c4
        cases hfr : f0.fresh with
        | true =>
          rw [hfr] at c3
          go_wp2_with fail
          go_meet
          case rel => exact ⟨by rw [hdi, hfr]; rfl, rfl⟩
        | false =>
          rw [hfr] at c3
          go_wp2_with fail
          go_meet
          case rel => exact ⟨by rw [hdi, hfr]; rfl, rfl⟩
    case rest =>
    rename World => w6b
    obtain ⟨rfl, hw6b⟩ := hcut
    rw [hw6b]
    clear hw6b c3 c4
    go_upto_if 59 with fail
    go_cut [59] from 53 to 77 (fun _ w' => Hid (w'.heap[b9]? = some (.cells (fc f1).toArray 136 (0, 0)) ∧ Touch (fun k => k = b9) w6a w'))
    case first =>
      cases hb : (f0.dirty && !f0.fresh) with
      | false =>
        have e : f1 = f0 := by rw [HF1.out]; unfold F.kp; rw [hb]; rfl
        subst e
        go_wp2_with fail
        go_meet
        case rel => exact ⟨HB96.out, Touch.refl _ _⟩
      | true =>
        have HFc := hid (show fc f1 = [.int .i64 f0.no, Str f0.now, Str f0.now, .bool f0.fresh, .bool f0.dirty] by rw [HF1.out]; unfold F.kp; rw [hb]; rfl)
        go_wp2_with fail
        go_meet
        case rel =>
          refine ⟨?_, (Touch.refl (fun k => k = b9) w6a).setCell (p := ⟨b9, 2, none⟩) (fun _ => rfl) _⟩
          have q1 := heap_setCell_same w6a b9 2 _ 136 (.string ⟨f0.now.toArray⟩) HB96.out
          rw [q1, HFc.out]
          rfl
    case rest =>
      rename World => w7c
      have H7c := hcut
      have h79 : b7 ≠ b9 := by have := HZ1.out.1; omega
      have hb7c := H7c.out.2.at' HB76.out h79
      have c70 : w7c.cell? ⟨b7, 0, none⟩ = some (.int .i64 (p.no : Int)) := cellOf hb7c 0
      have c71 : w7c.cell? ⟨b7, 1, none⟩ = some (.int .u8 (p.kind.toNat : Int)) := cellOf hb7c 1
      have c72 : w7c.cell? ⟨b7, 2, none⟩ = some (.slice va N vc) := cellOf hb7c 2
      have HG7 := hid (show GQ w7c (fun k => w.heap.size ≤ k ∧ k < w1.heap.size) ⟨va, vc, hs⟩ from HG6.out.touch H7c.out.2 (fun k hk e => by have := HZ1.out; omega))
      have HBy := hid (show Calls Tryz.prog 52 #[.agg #[.int .i64 (p.no : Int), .int .u8 (p.kind.toNat : Int), .slice va N vc]] w7c _ from rbytes_any p.no p.kind va hs N vc HHs.out.2 w7c HG7.out HNo.out.1 (by rw [HHs.out.1]; exact HNo.out.2))
      clear hb7c h79 c1 c22 fz2
      go_upto_region 19 with (first
        | (go_at_call 52; refine HBy.out.mono ?_; rintro e w7d ⟨ra, rc, rfl, H7d⟩
           have hAt7 : At w7d ra (F.nw bs) := by
             rw [HNw.out]
             have q := row_at H7d.out.1
             rw [HHs.out.1] at q
             exact q
           have hcv : (convert 43 9 (.slice ra 256 rc)).run Tryz.prog w7d = .ok (.string ⟨(F.nw bs).toArray⟩) w7d := by
             have q := conv_at w7d ra (F.nw bs) rc hAt7
             rw [HLb.out] at q
             exact q
           have hb7d := H7d.out.2.at' H7c.out.1 id
           have HB7d := hid hb7d
           have k1 := cellOf hb7d 1
           have fk1 := frozen_of_row w7d b9 1 _ 136 hb7d
           have k3 := cellOf hb7d 3
           have fk3 := frozen_of_row w7d b9 3 _ 136 hb7d
           have KK := hid trivial
           clear hAt7 hb7d))
      have HFc2 := hid (show fc f2 = [.int .i64 f1.no, Str (F.nw bs), Str f1.was, .bool true, .bool f1.dirty] by rw [HF2.out]; rfl)
      go_upto_region 20 with fail
      obtain ⟨w8a, hw8⟩ : ∃ w8a, (w7d.setCell ⟨b9, 1, none⟩ (.string ⟨(F.nw bs).toArray⟩)).setCell ⟨b9, 3, none⟩ (.bool true) = w8a := ⟨_, rfl⟩
      have HB8 := hid (show w8a.heap[b9]? = some (.cells (fc f2).toArray 136 (0, 0)) by
        have q1 := heap_setCell_same w7d b9 1 _ 136 (.string ⟨(F.nw bs).toArray⟩) HB7d.out
        have q2 := heap_setCell_same _ b9 3 _ 136 (.bool true) q1
        rw [← hw8, q2, HFc2.out]
        rfl)
      have hT8 : Touch (fun k => k = b9) w6a w8a := by
        rw [← hw8]
        exact (((H7c.out.2.trans (H7d.out.2.mono (fun _ _ c => c.elim))).setCell (p := ⟨b9, 1, none⟩) (fun _ => rfl) _).setCell (p := ⟨b9, 3, none⟩) (fun _ => rfl) _)
      have hn9 : ¬ O6 b9 := HnO.out b9 HZ9.out.1 HZ4.out
      have HQ8 := hid (HQ6.out.touch hT8 (fun k hk e => hn9 (by rw [← e]; exact hk)))
      have HQs8 := hid (show Qs w O w8a O6 from ⟨HQs.out.1.then hT8 (fun k hk e => by have := HZ9.out.1; omega), fun k c => by
        have hz8 := hT8.size
        rcases HQs.out.2 k c with c | c
        · exact .inl c
        · exact .inr ⟨c.1, by omega⟩⟩)
      have HN9 := hid hn9
      rw [hw8]
      clear hw8 hT8 hn9 k1 fk1 k3 fk3 hcv c70 c71 c72
      have HS2 := hid (show (∀ w', Adds w8a w' → (fun w' : World => w'.heap[q]? = some (QBox r { s with L := F.cutI s.L j } lv6) ∧ w'.heap[b9]? = some (.cells (fc f2).toArray 136 (0, 0))) w') ∧ (∀ w6 w7, Adds w8a w6 → w6.grownBy w7 lv6.ownBlock → (fun w' : World => w'.heap[q]? = some (QBox r { s with L := F.cutI s.L j } lv6) ∧ w'.heap[b9]? = some (.cells (fc f2).toArray 136 (0, 0))) w7) from ⟨fun w' hA => ⟨(HQ8.out.adds hA).box, hA.at' HB8.out id⟩, fun w6 w7 hA hg => ⟨by
        have hT := (hA.mono (U := fun k => lv6.ownBlock = some k) (fun _ _ c => c.elim)).trans (grown_touch hg)
        exact hT.at' HQ8.out.box (fun c => HQ8.out.ne c rfl), by
        have hT := (hA.mono (U := fun k => lv6.ownBlock = some k) (fun _ _ c => c.elim)).trans (grown_touch hg)
        exact hT.at' HB8.out (fun c => HN9.out (HQ8.out.ol b9 c))⟩⟩)
      have HLn6 := hid (show ({ s with L := F.cutI s.L j } : F.Po).L.length + 1 ≤ 100000 by show (F.cutI s.L j).length + 1 ≤ 100000; have := F.cut_len s.L j; have := HLl.out; omega)
      refine E_begin (S := fun w' : World => w'.heap[q]? = some (QBox r { s with L := F.cutI s.L j } lv6) ∧ w'.heap[b9]? = some (.cells (fc f2).toArray 136 (0, 0))) (X := 10) (by kernel_rfl) ?_
      have hS0 : (fun w' : World => w'.heap[q]? = some (QBox r { s with L := F.cutI s.L j } lv6) ∧ w'.heap[b9]? = some (.cells (fc f2).toArray 136 (0, 0))) w8a.drew := ⟨HQ8.out.box, HB8.out⟩
      refine E_put (i := 0) 68 (v := .pointer (some ⟨q, 0, none⟩)) rfl rfl (by kernel_rfl) (by kernel_rfl) (by kernel_rfl) (by kernel_rfl) (fun _ _ _ h => h) (Or.inl ⟨by rfl, fun w' hw' => ?_⟩) hS0 ?_
      · rfl
      simp only [Act.put, List.setIfInBounds_toArray, List.set_cons_zero, List.set_cons_succ]
      refine E_put (i := 1) 69 (v := .pointer (some ⟨q, 0, none⟩)) rfl rfl (by kernel_rfl) (by kernel_rfl) (by kernel_rfl) (by kernel_rfl) (fun _ _ _ h => h) (Or.inl ⟨by rfl, fun w' hw' => ?_⟩) hS0 ?_
      · rfl
      simp only [Act.put, List.setIfInBounds_toArray, List.set_cons_zero, List.set_cons_succ]
      refine E_put (i := 2) 70 (v := .pointer (some ⟨q, 0, none⟩)) rfl rfl (by kernel_rfl) (by kernel_rfl) (by kernel_rfl) (by kernel_rfl) (fun _ _ _ h => h) (Or.inl ⟨by rfl, fun w' hw' => ?_⟩) hS0 ?_
      · go_simp
      simp only [Act.put, List.setIfInBounds_toArray, List.set_cons_zero, List.set_cons_succ]
      refine E_put (i := 3) 71 (v := .pointer (some ⟨q, 4, none⟩)) rfl rfl (by kernel_rfl) (by kernel_rfl) (by kernel_rfl) (by kernel_rfl) (fun _ _ _ h => h) (Or.inl ⟨by rfl, fun w' hw' => ?_⟩) hS0 ?_
      · go_simp
      simp only [Act.put, List.setIfInBounds_toArray, List.set_cons_zero, List.set_cons_succ]
      refine E_put (i := 4) 72 (v := lv6) rfl rfl (by kernel_rfl) (by kernel_rfl) (by kernel_rfl) (by kernel_rfl) (fun _ _ _ h => h) (Or.inl ⟨by rfl, fun w' hw' => ?_⟩) hS0 ?_
      · (have c := cellOf hw'.1 4; clear hw'; go_simp)
      simp only [Act.put, List.setIfInBounds_toArray, List.set_cons_zero, List.set_cons_succ]
      refine E_put (i := 5) 73 (v := .agg (fc f2).toArray) rfl rfl (by kernel_rfl) (by kernel_rfl) (by kernel_rfl) (by kernel_rfl) (fun _ _ _ h => h) (yieldsIf_load_mid (by rfl) 136 (.tmp 9) rfl b9 0 rfl (fc f2) _ (fun w' hw' => range_box hw'.2) Tryz.underlying136 rfl (infoFr f2)) hS0 ?_
      simp only [Act.put, List.setIfInBounds_toArray, List.set_cons_zero, List.set_cons_succ]
      obtain ⟨w6, hw6⟩ : ∃ w6, w6 = w8a.drew.alloc (.cells (fc f2).toArray 136) := ⟨_, rfl⟩
      have hA6 : Adds w8a w6 := by rw [hw6]; exact (Touch.refl _ w8a).drew.alloc _
      have hN6 : w6.heap[w8a.heap.size]? = some (.cells (fc f2).toArray 136 (0, 0)) := by rw [hw6]; exact heap_alloc_new w8a.drew _
      have HZ6 := hid (show w6.heap.size = w8a.heap.size + 1 by rw [hw6]; simp)
      have hS6 := HS2.out.1 w6 hA6
      refine E_do (i := 6) (some 74) (by kernel_rfl) rfl rfl rfl (fun K hK => ?_)
      refine wp_buildSlice 90 1 0 (.tmp 73) rfl rfl (build_fr f2 _) ?_
      rw [← hw6]
      refine hK _ _ (fun _ => hS6) ?_
      clear hK K
      simp only [Act.put, List.setIfInBounds_toArray, List.set_cons_zero, List.set_cons_succ]
      have HA6 := hid hA6
      have HN6 := hid hN6
      clear hw6 hA6 hN6 hS0
      refine E_do (i := 7) (some 75) (by kernel_rfl) rfl rfl rfl (fun K hK => ?_)
      refine wp_append_fr _ _ rfl 0 lv6 _ _ rfl (HQ8.out.adds HA6.out).row ⟨w8a.heap.size, 0, none⟩ 1 1 [f2] rfl rfl (box_cells HN6.out) HLn6.out (Nat.zero_le _) ?_
      intro v7 w7 hr7 hg7 ha7
      obtain ⟨hb7, hp7⟩ := q_pushed HQ8.out HA6.out hr7 hg7 ha7
      have hS7 := HS2.out.2 w6 w7 HA6.out hg7
      obtain ⟨va7, vc7, ev7⟩ := row_form hr7
      subst ev7
      refine hK _ _ (fun _ => hS7) ?_
      clear hK K
      simp only [Act.put, List.setIfInBounds_toArray, List.set_cons_zero, List.set_cons_succ]
      have HP7 := hid hp7
      have HG7 := hid hg7
      have c47 := cellOf hb7 4
      have f47 := frozen_of_row w7 q 4 _ 92 hb7
      clear hr7 hg7 ha7 hp7 hb7
      refine E_do (i := 8) (some 76) (by kernel_rfl) rfl rfl rfl (fun K hK => ?_)
      go_simp
      refine hK (.pointer (some ⟨q, 0, none⟩)) _ (fun _ => hS7) ?_
      clear hK K
      simp only [Act.put, List.setIfInBounds_toArray, List.set_cons_zero, List.set_cons_succ]
      refine E_do (i := 9) (some 77) (by kernel_rfl) rfl rfl rfl (fun K hK => ?_)
      go_simp
      refine hK (.pointer (some ⟨q, 4, none⟩)) _ (fun _ => hS7) ?_
      clear hK K
      simp only [Act.put, List.setIfInBounds_toArray, List.set_cons_zero, List.set_cons_succ]
      refine E_do (i := 10) none (by kernel_rfl) rfl rfl rfl (fun K hK => ?_)
      go_simp
      refine hK undef _ (fun h => absurd rfl h) ?_
      clear hK K hS7
      simp only [Act.put]
      refine E_done (by kernel_rfl) ?_ _
      clear c47 f47
      go_wp2_with fail
      go_ret
      obtain ⟨O8, h8, hs8⟩ := HP7.out
      exact PQ11.of h8 (HQs8.out.trans hs8)
set_option maxRecDepth 100000 in
/-- Put, by the pool's state. -/
theorem qput_any {w : World} {O : Nat → Prop} {q r : Nat} {s : F.Po} (h : IsQ w O q r s) (hO : ∀ k, O k → k < w.heap.size) (hg : F.Good s) (hmo : s.mo ≤ 256) (hn : F.Nil s) (no : Int) (a : Option Addr) (bs : List UInt8) (m cap : Nat) (hm : bs.length = m) (hc : m ≤ cap) (hA : At w a bs) :
    Calls Tryz.prog 54 #[Ptr q, .int .i64 no, .slice a m cap] w (PQ11 w O q r (F.putS s no bs) (.int .i64 (F.putE s no bs : Int))) := by
  obtain ⟨lv, h⟩ := h
  have hl : s.L.length ≤ 9000 := by have := hg.len; omega
  have hS : F.putE s no bs ≠ 0 → F.putS s no bs = s := fun e => by unfold F.putS; rw [if_neg e]
  cases hno : F.inPool s no with
  | false =>
    have e1 : F.putE s no bs = 2 := by unfold F.putE; rw [hno]; rfl
    rw [hS (by rw [e1]; decide), e1]
    exact qput_bad h no hno a m cap
  | true =>
    cases hR : M.readP bs with
    | none =>
      have e1 : F.putE s no bs = 22 := by unfold F.putE; rw [hno, hR]; rfl
      rw [hS (by rw [e1]; decide), e1]
      exact qput_none h no hno a bs m cap hR hm hc hA
    | some p =>
      by_cases hp : (p.no : Int) = no
      · rcases F.idx_is s.L no with ⟨i, hi, e, hin, ha⟩ | ⟨e, ha, hall⟩
        · have hr := (need_at ha).2
          have e1 : F.putE s no bs = 0 := by unfold F.putE; rw [hno, hR]; simp [hp, hr]
          have e2 : F.putS s no bs = { s with L := F.cutI s.L (i : Int) ++ [{ F.kp (F.had s no) with now := F.nw bs, fresh := true }] } := by
            unfold F.putS
            rw [if_pos e1, ← had_put hn no bs]
            exact F.held_idx hg hi hin ha _
          rw [e1, e2]
          exact qput_ok h hO hl no hno a bs m cap p hR hp hm hc hA (i : Int) (i : Int) (F.had s no) e (by omega) (.inl ⟨i, hi, rfl, rfl, by unfold F.had; rw [ha]⟩) _ rfl
        · rcases F.out_is hg ha hall with ⟨o1, o2⟩ | ⟨j, o1, o2, o3, o4, o5⟩
          · have e1 : F.putE s no bs = 33 := by unfold F.putE; rw [hno, hR]; simp [hp, o2]
            rw [hS (by rw [e1]; decide), e1]
            exact qput_busy h hl no hno a bs m cap p hR hp hm hc hA e o1
          · have e1 : F.putE s no bs = 0 := by unfold F.putE; rw [hno, hR]; simp [hp, o4]
            have e2 : F.putS s no bs = { s with L := F.cutI s.L j ++ [{ F.kp (F.had s no) with now := F.nw bs, fresh := true }] } := by
              unfold F.putS
              rw [if_pos e1, ← had_put hn no bs]
              exact o5 _
            rw [e1, e2]
            exact qput_ok h hO hl no hno a bs m cap p hR hp hm hc hA (-1) j (F.had s no) e o3 (.inr ⟨rfl, o1, o2, by unfold F.had; rw [ha]⟩) _ rfl
      · have e1 : F.putE s no bs = 23 := by unfold F.putE; rw [hno, hR]; simp [hp]
        rw [hS (by rw [e1]; decide), e1]
        exact qput_stale h no hno a bs m cap p hR hp hm hc hA
end Go.Proofs.YtjlennpoaefllaaGreatDoor

/- The reference's call Flush. -/
namespace Go.Proofs.YtjlennpoaefllaaGreatDoor
open Go.RowKit

end Go.Proofs.YtjlennpoaefllaaGreatDoor

/- The reference's call Open. -/
namespace Go.Proofs.YtjlennpoaefllaaGreatDoor
open Go.RowKit

set_option maxRecDepth 100000 in
theorem IsRO.head {w : World} {O : Nat → Prop} {r : Nat} {D : dSt} (h : IsRO w O r D) : ∃ g gc, w.cell? ⟨r, 0, none⟩ = some (.slice (some ⟨g, 0, none⟩) D.size.toNat gc) := by
  obtain ⟨hv, wv, hrf, _, _, _⟩ := h
  obtain ⟨g, gc, hhv, _⟩ := hrf.heldAt
  exact ⟨g, gc, by rw [← hhv]; exact cellOf hrf.box 0⟩
set_option maxRecDepth 100000 in
theorem build_rpool (r : Nat) (fr ct mo : Int) (w : World) : (Instr.build 92 #[(0, .pointer (some ⟨r, 0, none⟩)), (1, .int .i64 fr), (2, .int .i64 ct), (3, .int .i64 mo)]).run Tryz.prog w = .ok (.agg #[.pointer (some ⟨r, 0, none⟩), .int .i64 fr, .int .i64 ct, .int .i64 mo, .slice none 0 0]) w := by kernel_rfl
/-- What Open makes. -/
def PROpn (w : World) (r : Nat) (s : F.Po) (e : Ending) (w' : World) : Prop := ∃ q, e = .returned (.tuple #[Ptr q, .int .i64 0]) ∧ Hid (IsQ w' (fun k => w.heap.size ≤ k ∧ k < w'.heap.size) q r s ∧ Adds w w')
set_option maxRecDepth 100000 in
set_option maxHeartbeats 2000000 in
theorem ropen11_ok {w : World} {O : Nat → Prop} {r : Nat} {D : dSt} (h : IsRO w O r D) (hs0 : 0 < D.size) (hsz : D.size ≤ 4096) (fr ct mo : Int) (hb : F.openOk D fr ct mo = true) : Calls Tryz.prog 12 #[Ptr r, .int .i64 fr, .int .i64 ct, .int .i64 mo] w (PROpn w r ⟨fr, ct, mo, []⟩) := by
  obtain ⟨g, gc, c0⟩ := h.head
  obtain ⟨sn, hsn⟩ : ∃ sn, sn = D.size.toNat := ⟨_, rfl⟩
  have hsn2 : D.size = (sn : Int) := by omega
  rw [← hsn] at c0
  have hb' : (0 ≤ fr ∧ 1 ≤ ct ∧ ct ≤ 4096 ∧ fr + ct ≤ (sn : Int) ∧ 1 ≤ mo ∧ mo ≤ 256) := by rw [← hsn2]; simpa [F.openOk] using hb
  have hn9 : (sn : Int) ≤ 4096 := by omega
  have h1 : ¬ fr < 0 := by omega
  have h2 : ¬ ct < 1 := by omega
  have h3 : ¬ 4096 < ct := by omega
  have hw : wrap64 ((sn : Int) - ct) = (sn : Int) - ct := by simp [wrap64]; omega
  have h4 : ¬ (sn : Int) - ct < fr := by omega
  have h5 : ¬ mo < 1 := by omega
  have h6 : ¬ 256 < mo := by omega
  have hbp := build_rpool
  unfold Ptr at *
  clear h hb hsn hsn2 hs0 hsz hb'
  go_enter Tryz.func12, Tryz.ntmps12
  go_wp2_with fail
  go_ret2
  refine ⟨_, rfl, ⟨.slice none 0 0, heap_alloc_new w _, ?_, ⟨Nat.le_refl _, by simp⟩, fun k hk => (by cases hk)⟩, (Touch.refl _ w).alloc _⟩
  exact World.ownsRow_nil _ _ _ _
end Go.Proofs.YtjlennpoaefllaaGreatDoor

/- The chapter's example: the walk. -/
namespace Go.Proofs.YtjlennpoaefllaaGreatDoor
open Go.RowKit

end Go.Proofs.YtjlennpoaefllaaGreatDoor

/- Spoil; Write where it is refused. -/
namespace Go.Proofs.YtjlennpoaefllaaGreatDoor
open Go.RowKit

end Go.Proofs.YtjlennpoaefllaaGreatDoor

/- A pool and its disk on both sides: the program's and the reference's. -/
namespace Go.Proofs.YtjlennpoaefllaaGreatDoor
open Go.RowKit
/-! ### The program's calls, with what they touch -/
/-- What a call of the program leaves. -/
def PPl2 (w0 w : World) (O OD : Nat → Prop) (p d : Nat) (s : F.Po) (D : dSt) (n k : Nat) (v : Value) (e : Ending) (w' : World) : Prop := e = .returned v ∧ Hid (∃ O' OD', Lp w0 w' O' OD' p d s D n k ∧ Touch (fun j => O j ∨ OD j) w w' ∧ ∀ j, O' j ∨ OD' j → (O j ∨ OD j) ∨ w.heap.size ≤ j)
theorem Lp.touch {w0 w : World} {O OD : Nat → Prop} {p d : Nat} {s : F.Po} {D : dSt} {n k : Nat} {w' : World} {T : Nat → Prop} (h : Lp w0 w O OD p d s D n k) (hT : Touch T w w') (hn : ∀ j, T j → ¬ (O j ∨ OD j) ∧ w0.heap.size ≤ j) : Lp w0 w' O OD p d s D n k :=
  ⟨h.pool.touch hT (fun j q c => (hn j c).1 (.inl q)), h.disk.touch hT (fun j q c => (hn j c).1 (.inr q)), h.ok, h.apart, h.low, fun j q => Nat.lt_of_lt_of_le (h.lt j q) hT.size, h.adds.then hT (fun j hj c => by have := (hn j c).2; omega), h.tab, h.good, h.pok⟩
set_option maxRecDepth 100000 in
theorem Lp.later {w0 w : World} {O OD : Nat → Prop} {p d : Nat} {s : F.Po} {D : dSt} {n k : Nat} {n' k' : Nat} (h : Lp w0 w O OD p d s D n k) (hn : n ≤ n') (hk : k ≤ k') : Lp w0 w O OD p d s D n' k' := by
  obtain ⟨hb, y, G, hp, hy⟩ := h.pool
  exact ⟨⟨hb, y, G, hp, by omega⟩, h.disk, h.ok.mono hk, h.apart, h.low, h.lt, h.adds, h.tab, h.good, h.pok⟩
/-! ### Both sides -/
/-- A pool p on the disk d, in the states s and D, the reference's q on r, in s' and D'; other blocks X, which are nobody's. -/
structure Pw (w0 w : World) (X : List (Nat × Obj)) (O OD OQ OR : Nat → Prop) (p d q r : Nat) (s s' : F.Po) (D D' : dSt) (n k : Nat) : Prop where
  wl : Lp w0 w O OD p d s D n k
  isq : IsQ w OQ q r s'
  ro : IsRO w OR r D'
  apq : ∀ j, OQ j → ¬ OR j
  ap : ∀ j, O j ∨ OD j → ¬ (OQ j ∨ OR j)
  low : ∀ j, OQ j ∨ OR j → w0.heap.size ≤ j
  lt : ∀ j, OQ j ∨ OR j → j < w.heap.size
  oth : ∀ x ∈ X, w.heap[x.1]? = some x.2 ∧ ¬ ((O x.1 ∨ OD x.1) ∨ OQ x.1 ∨ OR x.1)
def PwE (w0 w : World) (X : List (Nat × Obj)) (p d q r : Nat) (s s' : F.Po) (D D' : dSt) (n k : Nat) : Prop := ∃ O OD OQ OR, Pw w0 w X O OD OQ OR p d q r s s' D D' n k
/-- What a call leaves. -/
def PPw (w0 : World) (X : List (Nat × Obj)) (p d q r : Nat) (s s' : F.Po) (D D' : dSt) (n k : Nat) (v : Value) (e : Ending) (w' : World) : Prop := e = .returned v ∧ Hid (PwE w0 w' X p d q r s s' D D' n k)
theorem Pw.olt {w0 w : World} {X : List (Nat × Obj)} {O OD OQ OR : Nat → Prop} {p d q r : Nat} {s s' : F.Po} {D D' : dSt} {n k : Nat} (h : Pw w0 w X O OD OQ OR p d q r s s' D D' n k) {x : Nat × Obj} (hx : x ∈ X) : x.1 < w.heap.size := (Array.getElem?_eq_some_iff.1 (h.oth x hx).1).1
theorem Pw.adds {w0 w : World} {X : List (Nat × Obj)} {O OD OQ OR : Nat → Prop} {p d q r : Nat} {s s' : F.Po} {D D' : dSt} {n k : Nat} {w' : World} (h : Pw w0 w X O OD OQ OR p d q r s s' D D' n k) (hA : Adds w w') : Pw w0 w' X O OD OQ OR p d q r s s' D D' n k :=
  ⟨h.wl.add hA, h.isq.adds hA, h.ro.adds hA, h.apq, h.ap, h.low, fun j c => Nat.lt_of_lt_of_le (h.lt j c) hA.size, fun x hx => ⟨hA.at' (h.oth x hx).1 id, (h.oth x hx).2⟩⟩
set_option maxRecDepth 100000 in
theorem PwE.adds {w0 w : World} {X : List (Nat × Obj)} {p d q r : Nat} {s s' : F.Po} {D D' : dSt} {n k : Nat} {w' : World} (h : PwE w0 w X p d q r s s' D D' n k) (hA : Adds w w') : PwE w0 w' X p d q r s s' D D' n k := by
  obtain ⟨O, OD, OQ, OR, h⟩ := h
  exact ⟨O, OD, OQ, OR, h.adds hA⟩
set_option maxRecDepth 100000 in
theorem PwE.base {w0 w : World} {X : List (Nat × Obj)} {p d q r : Nat} {s s' : F.Po} {D D' : dSt} {n k : Nat} (h : PwE w0 w X p d q r s s' D D' n k) : Adds w0 w := by
  obtain ⟨O, OD, OQ, OR, h⟩ := h
  exact h.wl.adds
set_option maxRecDepth 100000 in
theorem PwE.facts {w0 w : World} {X : List (Nat × Obj)} {p d q r : Nat} {s s' : F.Po} {D D' : dSt} {n k : Nat} (h : PwE w0 w X p d q r s s' D D' n k) : F.Good s ∧ POk s D ∧ DOk D k ∧ Tab w0 := by
  obtain ⟨O, OD, OQ, OR, h⟩ := h
  exact ⟨h.wl.good, h.wl.pok, h.wl.ok, h.wl.tab⟩
set_option maxRecDepth 100000 in
theorem PwE.later {w0 w : World} {X : List (Nat × Obj)} {p d q r : Nat} {s s' : F.Po} {D D' : dSt} {n k : Nat} {n' k' : Nat} (h : PwE w0 w X p d q r s s' D D' n k) (hn : n ≤ n') (hk : k ≤ k') : PwE w0 w X p d q r s s' D D' n' k' := by
  obtain ⟨O, OD, OQ, OR, h⟩ := h
  exact ⟨O, OD, OQ, OR, h.wl.later hn hk, h.isq, h.ro, h.apq, h.ap, h.low, h.lt, h.oth⟩
set_option maxRecDepth 100000 in
theorem PwE.other {w0 w : World} {X : List (Nat × Obj)} {p d q r : Nat} {s s' : F.Po} {D D' : dSt} {n k : Nat} (h : PwE w0 w X p d q r s s' D D' n k) (x : Nat × Obj) (hx : x ∈ X) : w.heap[x.1]? = some x.2 := by
  obtain ⟨O, OD, OQ, OR, h⟩ := h
  exact (h.oth x hx).1
set_option maxRecDepth 100000 in
theorem PwE.fewer {w0 w : World} {X : List (Nat × Obj)} {p d q r : Nat} {s s' : F.Po} {D D' : dSt} {n k : Nat} {Y : List (Nat × Obj)} (h : PwE w0 w X p d q r s s' D D' n k) (hY : ∀ x ∈ Y, x ∈ X) : PwE w0 w Y p d q r s s' D D' n k := by
  obtain ⟨O, OD, OQ, OR, h⟩ := h
  exact ⟨O, OD, OQ, OR, h.wl, h.isq, h.ro, h.apq, h.ap, h.low, h.lt, fun x hx => h.oth x (hY x hx)⟩
set_option maxRecDepth 100000 in
/-- A block that was new a while ago is another one. -/
theorem PwE.more {w0 w : World} {X : List (Nat × Obj)} {p d q r : Nat} {s s' : F.Po} {D D' : dSt} {n k : Nat} {w' : World} (h : PwE w0 w X p d q r s s' D D' n k) (hA : Adds w w') (g : Nat) (o : Obj) (hg : w'.heap[g]? = some o) (hn : w.heap.size ≤ g) : PwE w0 w' ((g, o) :: X) p d q r s s' D D' n k := by
  obtain ⟨O, OD, OQ, OR, h⟩ := h
  have h' := h.adds hA
  refine ⟨O, OD, OQ, OR, h'.wl, h'.isq, h'.ro, h'.apq, h'.ap, h'.low, h'.lt, fun x hx => ?_⟩
  rcases List.mem_cons.1 hx with rfl | hx
  · refine ⟨hg, fun c => ?_⟩
    rcases c with c | c
    · have := h.wl.lt g c; omega
    · have := h.lt g c; omega
  · exact h'.oth x hx
set_option maxRecDepth 100000 in
/-- What is nobody's turns. -/
theorem PwE.turn {w0 w : World} {X : List (Nat × Obj)} {p d q r : Nat} {s s' : F.Po} {D D' : dSt} {n k : Nat} {w' : World} {Y : List (Nat × Obj)} (h : PwE w0 w X p d q r s s' D D' n k) {T : Nat → Prop} (hT : Touch T w w') (hn : ∀ j, T j → (∃ x ∈ X, x.1 = j) ∧ w0.heap.size ≤ j) (hY : ∀ y ∈ Y, (∃ x ∈ X, x.1 = y.1) ∧ w'.heap[y.1]? = some y.2) : PwE w0 w' Y p d q r s s' D D' n k := by
  obtain ⟨O, OD, OQ, OR, h⟩ := h
  have key : ∀ j, T j → ¬ ((O j ∨ OD j) ∨ OQ j ∨ OR j) := fun j c => by
    obtain ⟨⟨x, hx, e⟩, _⟩ := hn j c
    rw [← e]
    exact (h.oth x hx).2
  refine ⟨O, OD, OQ, OR, h.wl.touch hT (fun j c => ⟨fun c' => key j c (.inl c'), (hn j c).2⟩), h.isq.touch hT (fun j c c' => key j c' (.inr (.inl c))), h.ro.touch hT (fun j c c' => key j c' (.inr (.inr c))), h.apq, h.ap, h.low, fun j c => Nat.lt_of_lt_of_le (h.lt j c) hT.size, fun y hy => ?_⟩
  obtain ⟨⟨x, hx, e⟩, h2⟩ := hY y hy
  exact ⟨h2, by rw [← e]; exact (h.oth x hx).2⟩
set_option maxRecDepth 100000 in
/-- The program's side has moved. -/
theorem Pw.prog0 {w0 w : World} {X : List (Nat × Obj)} {O OD OQ OR : Nat → Prop} {p d q r : Nat} {s s' : F.Po} {D D' : dSt} {n k : Nat} {w' : World} {O' OD' : Nat → Prop} {s2 : F.Po} {D2 : dSt} {n2 k2 : Nat} (h : Pw w0 w X O OD OQ OR p d q r s s' D D' n k) (h1 : Lp w0 w' O' OD' p d s2 D2 n2 k2) (h2 : Touch (fun j => O j ∨ OD j) w w') (key : ∀ j, O' j ∨ OD' j → (O j ∨ OD j) ∨ w.heap.size ≤ j) : Pw w0 w' X O' OD' OQ OR p d q r s2 s' D2 D' n2 k2 := by
  have hz := h2.size
  refine ⟨h1, h.isq.touch h2 (fun j c c' => h.ap j c' (.inl c)), h.ro.touch h2 (fun j c c' => h.ap j c' (.inr c)), h.apq, fun j c c' => ?_, h.low, fun j c => Nat.lt_of_lt_of_le (h.lt j c) hz, fun x hx => ?_⟩
  · rcases key j c with c | c
    · exact h.ap j c c'
    · have := h.lt j c'; omega
  · have hl := h.olt hx
    refine ⟨h2.at' (h.oth x hx).1 (fun c => (h.oth x hx).2 (.inl c)), fun c => ?_⟩
    rcases c with c | c
    · rcases key _ c with c | c
      · exact (h.oth x hx).2 (.inl c)
      · omega
    · exact (h.oth x hx).2 (.inr c)
set_option maxRecDepth 100000 in
theorem Pw.prog {w0 w : World} {X : List (Nat × Obj)} {O OD OQ OR : Nat → Prop} {p d q r : Nat} {s s' : F.Po} {D D' : dSt} {n k : Nat} {w' : World} {s2 : F.Po} {D2 : dSt} {n2 k2 : Nat} {v : Value} {e : Ending} (h : Pw w0 w X O OD OQ OR p d q r s s' D D' n k) (hp : PPl2 w0 w O OD p d s2 D2 n2 k2 v e w') : PPw w0 X p d q r s2 s' D2 D' n2 k2 v e w' := by
  obtain ⟨he, hh⟩ := hp
  obtain ⟨O', OD', h1, h2, h3⟩ := hh.out
  exact ⟨he, O', OD', OQ, OR, h.prog0 h1 h2 h3⟩
set_option maxRecDepth 100000 in
/-- The reference's side has moved. -/
theorem Pw.refs {w0 w : World} {X : List (Nat × Obj)} {O OD OQ OR : Nat → Prop} {p d q r : Nat} {s s' : F.Po} {D D' : dSt} {n k : Nat} {w' : World} {OQ' OR' : Nat → Prop} {s2 : F.Po} {D2 : dSt} (h : Pw w0 w X O OD OQ OR p d q r s s' D D' n k) (hq : IsQ w' OQ' q r s2) (hr : IsRO w' OR' r D2) (ha : ∀ j, OQ' j → ¬ OR' j) (hT : Touch (fun j => OQ j ∨ OR j) w w') (hn : ∀ j, OQ' j ∨ OR' j → (OQ j ∨ OR j) ∨ (w.heap.size ≤ j ∧ j < w'.heap.size)) : Pw w0 w' X O OD OQ' OR' p d q r s s2 D D2 n k := by
  have hz := hT.size
  have hz0 := h.wl.adds.size
  refine ⟨h.wl.touch hT (fun j c => ⟨fun c' => h.ap j c' c, h.low j c⟩), hq, hr, ha, fun j c c' => ?_, fun j c => ?_, fun j c => ?_, fun x hx => ?_⟩
  · rcases hn j c' with d1 | d1
    · exact h.ap j c d1
    · have := h.wl.lt j c; omega
  · rcases hn j c with d1 | d1
    · exact h.low j d1
    · omega
  · rcases hn j c with d1 | d1
    · have := h.lt j d1; omega
    · exact d1.2
  · have hl := h.olt hx
    refine ⟨hT.at' (h.oth x hx).1 (fun c => (h.oth x hx).2 (.inr c)), fun c => ?_⟩
    rcases c with c | c
    · exact (h.oth x hx).2 (.inl c)
    · rcases hn _ c with c | c
      · exact (h.oth x hx).2 (.inr c)
      · omega
set_option maxRecDepth 100000 in
theorem Pw.refq {w0 w : World} {X : List (Nat × Obj)} {O OD OQ OR : Nat → Prop} {p d q r : Nat} {s s' : F.Po} {D D' : dSt} {n k : Nat} {w' : World} {s2 : F.Po} {v : Value} {e : Ending} (h : Pw w0 w X O OD OQ OR p d q r s s' D D' n k) (hp : PQ11 w OQ q r s2 v e w') : PPw w0 X p d q r s s2 D D' n k v e w' := by
  obtain ⟨he, hh⟩ := hp
  obtain ⟨OQ', h1, h2, h3⟩ := hh.out
  refine ⟨he, O, OD, OQ', OR, h.refs h1 (h.ro.touch h2 (fun j c c' => h.apq j c' c)) (fun j c c' => ?_) (h2.mono (fun _ _ c => .inl c)) (fun j c => ?_)⟩
  · rcases h3 j c with c | c
    · exact h.apq j c c'
    · have := h.lt j (.inr c'); omega
  · rcases c with c | c
    · exact (h3 j c).imp .inl id
    · exact .inl (.inr c)
/-! ### The calls, each on its side -/
set_option maxRecDepth 100000 in
theorem pq_put {w0 w : World} {X : List (Nat × Obj)} {p d q r : Nat} {s s' : F.Po} {D D' : dSt} {n k : Nat} (h : PwE w0 w X p d q r s s' D D' n k) (hg : F.Good s') (hmo : s'.mo ≤ 256) (hnl : F.Nil s') (no : Int) (a : Option Addr) (bs : List UInt8) (m cap : Nat) (hm : bs.length = m) (hc : m ≤ cap) (hA : At w a bs) : Calls Tryz.prog 54 #[Ptr q, .int .i64 no, .slice a m cap] w (PPw w0 X p d q r s (F.putS s' no bs) D D' n k (.int .i64 (F.putE s' no bs : Int))) := by
  obtain ⟨O, OD, OQ, OR, h⟩ := h
  exact (qput_any h.isq (fun j c => h.lt j (.inl c)) hg hmo hnl no a bs m cap hm hc hA).mono (fun _ _ x => h.refq x)
end Go.Proofs.YtjlennpoaefllaaGreatDoor
