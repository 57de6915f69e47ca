/- Texts put together: FAMath, FAges0, FLawX, FTwo. -/
import Derived.Test.YtjbdchgadfhffaaDoorQ31
/- A pool of clean pages, by the order in which they were got. -/
namespace Go.Proofs.YtjbdchgadfhffaaDoor
open Go.RowKit

/-- A number within six. -/
def six (z : Int) : Nat := (z % 18446744073709551616).toNat % 6
theorem six_lt (z : Int) : six z < 6 := Nat.mod_lt _ (by decide)
set_option maxRecDepth 100000 in
theorem six_wrap (z : Int) : wrap64 ((IntKind.u64.wrap z).tmod 6) = (six z : Int) := by
  unfold six
  rw [IntKind.wrap_u64]
  have h0 : 0 ≤ z % 18446744073709551616 := Int.emod_nonneg _ (by decide)
  rw [Int.tmod_eq_emod_of_nonneg h0]
  unfold wrap64
  omega
namespace F
/-- Clean frames of some pages. -/
def cl (B : Int → List UInt8) (qs : List Int) : List Fr := qs.map fun z => ⟨z, B z, [], false, false⟩
set_option maxRecDepth 100000 in
theorem cl_no (B : Int → List UInt8) (qs : List Int) : (cl B qs).map (·.no) = qs := by
  unfold cl
  rw [List.map_map]
  conv => rhs; rw [← List.map_id qs]
  exact List.map_congr_left (fun _ _ => rfl)
set_option maxRecDepth 100000 in
theorem cl_sans (B : Int → List UInt8) (qs : List Int) (k : Int) : sansF (cl B qs) k = cl B (qs.filter fun z => decide (z ≠ k)) := by
  unfold sansF cl
  rw [List.filter_map]
  rfl
theorem cl_old (B : Int → List UInt8) : ∀ qs : List Int, old (cl B qs) = qs.head?.map fun z => ⟨z, B z, [], false, false⟩
  | [] => rfl
  | _ :: _ => rfl
set_option maxRecDepth 100000 in
theorem cl_at {B : Int → List UInt8} {qs : List Int} {k : Int} : (k ∈ qs → at? (cl B qs) k = some ⟨k, B k, [], false, false⟩) ∧ (¬ k ∈ qs → at? (cl B qs) k = none) := by
  constructor
  · intro h
    unfold at? cl
    induction qs with
    | nil => cases h
    | cons x qs ih =>
      rw [List.map_cons, List.find?_cons]
      by_cases e : x = k
      · subst e; simp
      · rcases List.mem_cons.1 h with c | c
        · exact absurd c.symm e
        · simp only [e, decide_false]
          exact ih c
  · intro h
    unfold at? cl
    rw [List.find?_eq_none]
    intro f hf
    obtain ⟨z, hz, rfl⟩ := List.mem_map.1 hf
    simpa using fun e => h (by rw [← e]; exact hz)
/-- The pages that are held when one more is got. -/
def nextAs (n : Nat) (qs : List Int) (z : Int) : List Int := if n < (qs.filter (fun k => decide (k ≠ z)) ++ [z]).length then (qs.filter (fun k => decide (k ≠ z)) ++ [z]).tail else qs.filter (fun k => decide (k ≠ z)) ++ [z]
end F
set_option maxRecDepth 100000 in
/-- Get of a page that can be read. -/
theorem cl_get {B : Int → List UInt8} {n : Nat} (hn : 1 ≤ n) {D : dSt} {qs : List Int} {z : Int} (hnd : qs.Nodup) (hlen : qs.length ≤ n) (hz : 0 ≤ z ∧ z < 6) (hon : D.left ≠ 0) (hE : M.openE (hasOf D.H D.W (0 + z)) z = 0) (hB : M.openP (hasOf D.H D.W (0 + z)) z = B z) :
    F.getE ⟨0, 6, (n : Int), F.cl B qs⟩ D z = 0 ∧ F.getS ⟨0, 6, (n : Int), F.cl B qs⟩ D z = ⟨0, 6, (n : Int), F.cl B (F.nextAs n qs z)⟩ := by
  obtain ⟨s, hs⟩ : ∃ s : F.Po, s = ⟨0, 6, (n : Int), F.cl B qs⟩ := ⟨_, rfl⟩
  have hin : F.inPool s z = true := by rw [hs]; unfold F.inPool; simp [hz.1, hz.2]
  have hL : s.L = F.cl B qs := by rw [hs]
  have hmo : s.mo = (n : Int) := by rw [hs]
  have hlc : (F.cl B qs).length = qs.length := by unfold F.cl; rw [List.length_map]
  rw [← hs]
  by_cases hm : z ∈ qs
  · have ha : F.at? s.L z = some ⟨z, B z, [], false, false⟩ := by rw [hL]; exact F.cl_at.1 hm
    have e1 : F.getE s D z = 0 := by unfold F.getE; rw [hin, ha]; rfl
    have hnd2 := (need_at ha).1
    refine ⟨e1, ?_⟩
    unfold F.getS
    rw [if_pos e1]
    have e2 : F.getF s D z = ⟨z, B z, [], false, false⟩ := by unfold F.getF; rw [ha]
    unfold F.held F.out
    rw [e2, hnd2, hL, hs]
    simp only [Bool.false_eq_true, if_false, F.cl_sans]
    have hlt : (qs.filter (fun k => decide (k ≠ z))).length < qs.length := by
      refine Nat.lt_of_le_of_ne (List.length_filter_le _ _) (fun e => ?_)
      have := List.length_filter_eq_length_iff.1 e z hm
      simp at this
    have : F.nextAs n qs z = qs.filter (fun k => decide (k ≠ z)) ++ [z] := by
      unfold F.nextAs
      rw [if_neg]
      rw [List.length_append, List.length_singleton]
      omega
    rw [this]
    unfold F.cl
    rw [List.map_append]
    rfl
  · have ha : F.at? s.L z = none := by rw [hL]; exact F.cl_at.2 hm
    have hfil : qs.filter (fun k => decide (k ≠ z)) = qs := by
      rw [List.filter_eq_self]
      intro k hk
      simpa using fun e => hm (by rw [← e]; exact hk)
    have hneed : F.need s z = decide ((n : Int) ≤ (qs.length : Int)) := by
      unfold F.need
      rw [ha, hmo, hL, hlc]
      rfl
    have hold : F.old s.L = qs.head?.map fun z => ⟨z, B z, [], false, false⟩ := by rw [hL]; exact F.cl_old B qs
    have hroom : F.room s z = true := by
      unfold F.room
      rw [hneed, hold]
      cases qs with
      | nil => simp; omega
      | cons x qs => simp
    have e0 : F.rdE s D z = 0 := by
      unfold F.rdE
      rw [hroom, if_neg hon]
      rw [show s.fr = 0 by rw [hs]]
      exact hE
    have eB : F.rdB s D z = B z := by
      unfold F.rdB
      rw [show s.fr = 0 by rw [hs]]
      exact hB
    have e1 : F.getE s D z = 0 := by unfold F.getE; rw [hin, ha]; exact e0
    refine ⟨e1, ?_⟩
    unfold F.getS
    rw [if_pos e1]
    have e2 : F.getF s D z = ⟨z, B z, [], false, false⟩ := by unfold F.getF; rw [ha, eB]
    unfold F.held F.out
    rw [e2, hneed, hold, hL, hs]
    unfold F.nextAs
    rw [hfil]
    by_cases hc : n ≤ qs.length
    · rw [if_pos (by simpa using (by omega : (n : Int) ≤ (qs.length : Int))), if_pos (by rw [List.length_append]; simp; omega)]
      cases qs with
      | nil => simp at hc; omega
      | cons x qs =>
        simp only [List.head?_cons, Option.map_some, F.cl_sans, List.cons_append, List.tail_cons]
        have h1 := List.nodup_cons.1 hnd
        have f1 : (x :: qs).filter (fun z => decide (z ≠ x)) = qs := by
          rw [List.filter_cons]
          simp only [ne_eq, not_true_eq_false, decide_false, Bool.false_eq_true, if_false]
          rw [List.filter_eq_self]
          intro k hk
          simpa using fun e => h1.1 (by rw [← e]; exact hk)
        rw [f1]
        have f2 : qs.filter (fun k => decide (k ≠ z)) = qs := by
          rw [List.filter_eq_self]
          intro k hk
          simpa using fun e => hm (List.mem_cons_of_mem _ (by rw [← e]; exact hk))
        rw [f2]
        unfold F.cl
        rw [List.map_append]
        rfl
    · rw [if_neg (by simpa using (by omega : ¬ (n : Int) ≤ (qs.length : Int))), if_neg (by rw [List.length_append]; simp; omega)]
      rw [F.cl_sans, hfil]
      unfold F.cl
      rw [List.map_append]
      rfl
set_option maxRecDepth 100000 in
theorem nextAs_ok {n : Nat} {qs : List Int} {z : Int} (hnd : qs.Nodup) (hlen : qs.length ≤ n) (hin : ∀ k ∈ qs, 0 ≤ k ∧ k < 6) (hz : 0 ≤ z ∧ z < 6) : (F.nextAs n qs z).Nodup ∧ (F.nextAs n qs z).length ≤ n + 1 ∧ ((F.nextAs n qs z).length ≤ n ∨ n = 0) ∧ ∀ k ∈ F.nextAs n qs z, 0 ≤ k ∧ k < 6 := by
  have h1 : (qs.filter (fun k => decide (k ≠ z)) ++ [z]).Nodup := by
    rw [List.nodup_append]
    refine ⟨hnd.sublist List.filter_sublist, by simp, fun x hx y hy e => ?_⟩
    have : x ≠ z := by simpa using (List.mem_filter.1 hx).2
    have hy' : y = z := by simpa using hy
    exact this (by rw [e, hy'])
  have h2 : ∀ k ∈ qs.filter (fun k => decide (k ≠ z)) ++ [z], 0 ≤ k ∧ k < 6 := fun k hk => by
    rcases List.mem_append.1 hk with hk | hk
    · exact hin k (List.mem_filter.1 hk).1
    · rw [List.mem_singleton.1 hk]; exact hz
  have h3 : (qs.filter (fun k => decide (k ≠ z)) ++ [z]).length ≤ qs.length + 1 := by
    rw [List.length_append, List.length_singleton]
    have := List.length_filter_le (fun k => decide (k ≠ z)) qs
    omega
  unfold F.nextAs
  split
  · refine ⟨h1.sublist (List.tail_sublist _), by rw [List.length_tail]; omega, .inl (by rw [List.length_tail]; omega), fun k hk => h2 k (List.mem_of_mem_tail hk)⟩
  · exact ⟨h1, by omega, .inl (by omega), h2⟩
set_option maxRecDepth 100000 in
theorem cl_held (B : Int → List UInt8) (n : Int) (qs : List Int) : F.which ⟨0, 6, n, F.cl B qs⟩ F.isHeld = rise qs := by
  unfold F.which
  have : (F.cl B qs).filter F.isHeld = F.cl B qs := List.filter_eq_self.2 (fun _ _ => rfl)
  show rise (((F.cl B qs).filter F.isHeld).map (·.no)) = _
  rw [this, F.cl_no]
end Go.Proofs.YtjbdchgadfhffaaDoor

/- Six pages on a disk; another pool over it. -/
namespace Go.Proofs.YtjbdchgadfhffaaDoor
open Go.RowKit

/-- The first i pages, put. -/
def pS (i : Nat) : F.Po := ⟨0, 6, 6, (List.range i).map fun (j : Nat) => ⟨(j : Int), pl j 7, [], true, false⟩⟩
set_option maxRecDepth 100000 in
theorem pS_put {i : Nat} (h : i < 6) : F.putE (pS i) (i : Int) (pl i 7) = 0 ∧ F.putS (pS i) (i : Int) (pl i 7) = pS (i + 1) := by
  obtain rfl | rfl | rfl | rfl | rfl | rfl : i = 0 ∨ i = 1 ∨ i = 2 ∨ i = 3 ∨ i = 4 ∨ i = 5 := by omega
  · obtain ⟨h1, h2⟩ := put_pl (s := pS 0) (no := 0) (by decide) 7 rfl rfl
    exact ⟨h1, h2.trans rfl⟩
  · obtain ⟨h1, h2⟩ := put_pl (s := pS 1) (no := 1) (by decide) 7 rfl rfl
    exact ⟨h1, h2.trans rfl⟩
  · obtain ⟨h1, h2⟩ := put_pl (s := pS 2) (no := 2) (by decide) 7 rfl rfl
    exact ⟨h1, h2.trans rfl⟩
  · obtain ⟨h1, h2⟩ := put_pl (s := pS 3) (no := 3) (by decide) 7 rfl rfl
    exact ⟨h1, h2.trans rfl⟩
  · obtain ⟨h1, h2⟩ := put_pl (s := pS 4) (no := 4) (by decide) 7 rfl rfl
    exact ⟨h1, h2.trans rfl⟩
  · obtain ⟨h1, h2⟩ := put_pl (s := pS 5) (no := 5) (by decide) 7 rfl rfl
    exact ⟨h1, h2.trans rfl⟩
def pA : F.Po := ⟨0, 6, 6, (List.range 6).map fun (j : Nat) => ⟨(j : Int), pl j 7, [], false, true⟩⟩
theorem pA_acc : F.accS (pS 6) = pA := rfl
theorem pA_dirty : F.which pA F.isDirty = [0, 1, 2, 3, 4, 5] ∧ F.which pA F.isFresh = [] :=
  ⟨(show F.which pA F.isDirty = rise [0, 1, 2, 3, 4, 5] from rfl).trans (rise_eq (List.Perm.refl _) (by decide)), (show F.which pA F.isFresh = rise [] from rfl).trans rise_nil⟩
/-- The disk with six pages. -/
def pW : dSt := (((((((dSt.new 6).wrote 0 (M.sealP (pl 0 7))).wrote 1 (M.sealP (pl 1 7))).wrote 2 (M.sealP (pl 2 7))).wrote 3 (M.sealP (pl 3 7))).wrote 4 (M.sealP (pl 4 7))).wrote 5 (M.sealP (pl 5 7)))
def pD : dSt := pW.synced
set_option maxRecDepth 100000 in
theorem pD_fl : F.flX pA (dSt.new 6) = (0, pD) := by
  unfold F.flX
  rw [pA_dirty.2, if_pos rfl, pA_dirty.1, if_neg (by simp)]
  rfl
set_option maxRecDepth 100000 in
theorem pD_has {z : Nat} (h : z < 6) : hasOf pD.H pD.W (0 + (z : Int)) = M.sealP (pl z 7) := by
  obtain rfl | rfl | rfl | rfl | rfl | rfl : z = 0 ∨ z = 1 ∨ z = 2 ∨ z = 3 ∨ z = 4 ∨ z = 5 := by omega
  all_goals rfl
set_option maxRecDepth 100000 in
theorem pD_open {z : Nat} (h : z < 6) : M.openE (hasOf pD.H pD.W (0 + (z : Int))) (z : Int) = 0 := by
  rw [pD_has h, sealP_some (pl_read (by omega) 7), open_sealed (pl_read (by omega) 7)]
  unfold F.isE
  rw [pl_read (by omega)]
  simp
theorem pD_on : pD.left = -1 ∧ pD.size = 6 := ⟨rfl, rfl⟩
/-- What is told of a page. -/
def pB (z : Int) : List UInt8 := M.openP (hasOf pD.H pD.W (0 + z)) z
set_option maxRecDepth 100000 in
/-- Another pool on the disk: the first one is nobody's from there on. -/
theorem lp_open {w0 w : World} {p dp : Nat} {s : F.Po} {D : dSt} {n k : Nat} (h : LpE w0 w p dp s D n k) (hsz : D.size ≤ 4096) (fr ct mo : Int) (hb : F.openOk D fr ct mo = true) :
    Calls Tryd.prog 7 #[Ptr dp, .int .i64 fr, .int .i64 ct, .int .i64 mo] w (fun e w' => ∃ q, e = .returned (.tuple #[Ptr q, .int .i64 0]) ∧ Hid (LpE w0 w' q dp ⟨fr, ct, mo, []⟩ D 0 k)) := by
  obtain ⟨O, OD, h⟩ := h
  refine (bopen_ok h.disk h.ok hsz fr ct mo hb).mono ?_
  rintro e w' ⟨q, rfl, H⟩
  have hz := H.out.2.size
  have hz0 := h.adds.size
  have hb' : 0 ≤ fr ∧ 1 ≤ ct ∧ ct ≤ 4096 ∧ fr + ct ≤ D.size ∧ 1 ≤ mo ∧ mo ≤ 256 := by simpa [F.openOk] using hb
  refine ⟨q, rfl, _, OD, H.out.1, h.disk.adds H.out.2, h.ok, fun j c c' => ?_, fun j c => ?_, fun j c => ?_, h.adds.trans H.out.2, h.tab, ⟨fun f hf => (by cases hf), fun f hf => (by cases hf), fun f hf => (by cases hf), by show (0 : Int) ≤ mo; omega, List.nodup_nil⟩, ⟨hb'.1, hb'.2.1, hb'.2.2.2.1, hsz, hb'.2.2.2.2.1, hb'.2.2.2.2.2⟩⟩
  · have := h.lt j (.inr c'); omega
  · rcases c with c | c
    · omega
    · exact h.low j (.inr c)
  · rcases c with c | c
    · exact c.2
    · exact Nat.lt_of_lt_of_le (h.lt j (.inr c)) hz
end Go.Proofs.YtjbdchgadfhffaaDoor

/- A pool and its disk in a law's memory, with other blocks that are nobody's. -/
namespace Go.Proofs.YtjbdchgadfhffaaDoor
open Go.RowKit

/-- Other blocks X, which are nobody's. -/
def LpX (w0 w : World) (X : List (Nat × Obj)) (p dp : Nat) (s : F.Po) (D : dSt) (n k : Nat) : Prop := ∃ O OD, Lp w0 w O OD p dp s D n k ∧ ∀ x ∈ X, w.heap[x.1]? = some x.2 ∧ ¬ (O x.1 ∨ OD x.1)
set_option maxRecDepth 100000 in
theorem LpX.e {w0 w : World} {X : List (Nat × Obj)} {p dp : Nat} {s : F.Po} {D : dSt} {n k : Nat} (h : LpX w0 w X p dp s D n k) : LpE w0 w p dp s D n k := by
  obtain ⟨O, OD, h, _⟩ := h
  exact ⟨O, OD, h⟩
set_option maxRecDepth 100000 in
theorem LpE.x {w0 w : World} {p dp : Nat} {s : F.Po} {D : dSt} {n k : Nat} (h : LpE w0 w p dp s D n k) : LpX w0 w [] p dp s D n k := by
  obtain ⟨O, OD, h⟩ := h
  exact ⟨O, OD, h, fun x hx => by cases hx⟩
set_option maxRecDepth 100000 in
theorem LpX.add {w0 w w' : World} {X : List (Nat × Obj)} {p dp : Nat} {s : F.Po} {D : dSt} {n k : Nat} (h : LpX w0 w X p dp s D n k) (hA : Adds w w') : LpX w0 w' X p dp s D n k := by
  obtain ⟨O, OD, h, hx⟩ := h
  exact ⟨O, OD, h.add hA, fun x q => ⟨by rw [hA.block x.1 (Array.getElem?_eq_some_iff.1 (hx x q).1).1 id]; exact (hx x q).1, (hx x q).2⟩⟩
set_option maxRecDepth 100000 in
theorem LpX.at {w0 w : World} {X : List (Nat × Obj)} {p dp : Nat} {s : F.Po} {D : dSt} {n k : Nat} (h : LpX w0 w X p dp s D n k) (x : Nat × Obj) (hx : x ∈ X) : w.heap[x.1]? = some x.2 := by
  obtain ⟨O, OD, h, q⟩ := h
  exact (q x hx).1
set_option maxRecDepth 100000 in
theorem LpX.fewer {w0 w : World} {X Y : List (Nat × Obj)} {p dp : Nat} {s : F.Po} {D : dSt} {n k : Nat} (h : LpX w0 w X p dp s D n k) (hY : ∀ x ∈ Y, x ∈ X) : LpX w0 w Y p dp s D n k := by
  obtain ⟨O, OD, h, q⟩ := h
  exact ⟨O, OD, h, fun x hx => q x (hY x hx)⟩
set_option maxRecDepth 100000 in
/-- A block that was new a while ago is another one. -/
theorem LpX.more {w0 w w' : World} {X : List (Nat × Obj)} {p dp : Nat} {s : F.Po} {D : dSt} {n k : Nat} (h : LpX w0 w X p dp s D n k) (hA : Adds w w') (g : Nat) (o : Obj) (hg : w'.heap[g]? = some o) (hn : w.heap.size ≤ g) : LpX w0 w' ((g, o) :: X) p dp s D n k := by
  obtain ⟨O, OD, h0, q⟩ := h
  refine ⟨O, OD, h0.add hA, fun x hx => ?_⟩
  rcases List.mem_cons.1 hx with rfl | hx
  · exact ⟨hg, fun c => by have := h0.lt g c; omega⟩
  · exact ⟨by rw [hA.block x.1 (Array.getElem?_eq_some_iff.1 (q x hx).1).1 id]; exact (q x hx).1, (q x hx).2⟩
set_option maxRecDepth 100000 in
/-- The pool's side has moved, the other blocks stay. -/
theorem lx_moved {w0 w w' : World} {O OD O' : Nat → Prop} {X : List (Nat × Obj)} {p dp : Nat} {s s' : F.Po} {D : dSt} {n n' k : Nat} (h : Lp w0 w O OD p dp s D n k) (q : ∀ x ∈ X, w.heap[x.1]? = some x.2 ∧ ¬ (O x.1 ∨ OD x.1)) (hp : IsPool w' O' p dp s' n') (hT : Touch O w w') (hO : ∀ j, O' j → O j ∨ (w.heap.size ≤ j ∧ j < w'.heap.size)) (hg : F.Good s') (hk : POk s' D) : LpX w0 w' X p dp s' D n' k := by
  refine ⟨O', OD, h.moved hp hT hO hg hk, fun x hx => ?_⟩
  have hl := (Array.getElem?_eq_some_iff.1 (q x hx).1).1
  refine ⟨by rw [hT.block x.1 hl (fun c => (q x hx).2 (.inl c))]; exact (q x hx).1, fun c => ?_⟩
  rcases c with c | c
  · rcases hO x.1 c with c | c
    · exact (q x hx).2 (.inl c)
    · omega
  · exact (q x hx).2 (.inr c)
/-- What Get tells. -/
def PLgX (w0 w : World) (X : List (Nat × Obj)) (p dp : Nat) (s : F.Po) (D : dSt) (n k z : Nat) (bs : List UInt8) (e : Ending) (w' : World) : Prop := ∃ v, e = .returned (.tuple #[v, .int .i64 (z : Int)]) ∧ Hid (w'.ownsRow w.heap.size 5 1 v bs.length (S bs) ∧ LpX w0 w' X p dp s D n k)
set_option maxRecDepth 100000 in
theorem lx_get {w0 w : World} {X : List (Nat × Obj)} {p dp : Nat} {s : F.Po} {D : dSt} {n k : Nat} (h : LpX w0 w X p dp s D n k) (hn : n + 1 ≤ 1000000) (hk9 : k ≤ 900) (no : Int) :
    Calls Tryd.prog 8 #[Ptr p, .int .i64 no] w (PLgX w0 w X p dp (F.getS s D no) D (n + 1) k (F.getE s D no) (F.getB s D no)) := by
  obtain ⟨O, OD, h, q⟩ := h
  refine (bget_any h.pool hn (fun j c => h.lt j (.inl c)) h.disk h.ok hk9 h.pok h.tabs no).mono ?_
  rintro e w' ⟨v, rfl, H⟩
  obtain ⟨h0, O', h1, h2, h3, _⟩ := H.out
  exact ⟨v, rfl, h0, lx_moved h q h1 h2 h3 (h.good.get D no) (h.pok.same (F.get_same s D no) rfl)⟩
set_option maxRecDepth 100000 in
theorem lx_put {w0 w : World} {X : List (Nat × Obj)} {p dp : Nat} {s : F.Po} {D : dSt} {n k : Nat} (h : LpX w0 w X p dp s D n k) (hn : n + 1 ≤ 1000000) (no : Int) (a : Option Addr) (bs : List UInt8) (m cap : Nat) (hm : bs.length = m) (hc : m ≤ cap) (hA : At w a bs) :
    Calls Tryd.prog 9 #[Ptr p, .int .i64 no, .slice a m cap] w (fun e w' => e = .returned (.int .i64 (F.putE s no bs : Int)) ∧ Hid (LpX w0 w' X p dp (F.putS s no bs) D (n + 1) k)) := by
  obtain ⟨O, OD, h, q⟩ := h
  refine (bput_any h.pool hn no a bs m cap hm hc hA h.tabs).mono ?_
  rintro e w' ⟨rfl, H⟩
  obtain ⟨O', h1, h2, h3⟩ := H.out
  exact ⟨rfl, lx_moved h q h1 h2 h3 (h.good.put no bs) (h.pok.same (F.put_same s no bs) rfl)⟩
/-- Numbers that lie in a block that is nobody's. -/
def AgX (X : List (Nat × Obj)) (v : Value) (zs : List Int) : Prop := ∃ a cap, v = .slice a zs.length cap ∧ ∀ i (hi : i < zs.length), ∃ b o cs fr, a = some ⟨b, o, none⟩ ∧ (b, Obj.cells cs 3 fr) ∈ X ∧ cs[o + i]? = some (.int .i64 zs[i])
theorem AgX.nil (X : List (Nat × Obj)) : AgX X (.slice none 0 0) [] := ⟨none, 0, rfl, fun i hi => by cases hi⟩
set_option maxRecDepth 100000 in
theorem AgX.nat {w0 w : World} {X : List (Nat × Obj)} {p dp : Nat} {s : F.Po} {D : dSt} {n k : Nat} {v : Value} {zs : List Int} (h : AgX X v zs) (hx : LpX w0 w X p dp s D n k) : ∃ a cap, v = .slice a zs.length cap ∧ NAt w a zs := by
  obtain ⟨a, cap, e, hg⟩ := h
  refine ⟨a, cap, e, fun i hi => ?_⟩
  obtain ⟨b, o, cs, fr, ea, hm, hc⟩ := hg i hi
  exact ⟨b, o, ea, by rw [cellOf (hx.at _ hm)]; exact hc⟩
set_option maxRecDepth 100000 in
theorem AgX.nat2 {w0 w : World} {X : List (Nat × Obj)} {p dp : Nat} {s : F.Po} {D : dSt} {n k : Nat} {a : Option Addr} {m cap : Nat} {zs : List Int} (h : AgX X (.slice a m cap) zs) (hx : LpX w0 w X p dp s D n k) : NAt w a zs ∧ zs.length = m := by
  obtain ⟨a', cap', e, hg⟩ := h.nat hx
  cases e
  exact ⟨hg, rfl⟩
set_option maxRecDepth 100000 in
/-- A row of one's own, as such a block. -/
theorem row_ag {w0 w w2 : World} {X : List (Nat × Obj)} {p dp : Nat} {s : F.Po} {D : dSt} {n k B : Nat} {v : Value} {zs : List Int} (hx : LpX w0 w X p dp s D n k) (hA : Adds w w2) (h : w2.ownsRow B 3 1 v zs.length (I zs)) (hB : w.heap.size ≤ B) : ∃ Y, LpX w0 w2 Y p dp s D n k ∧ AgX Y v zs := by
  rcases h.2 with ⟨rfl, h0⟩ | ⟨g, cap, cur, rfl, hb, hg, h1, h2, h3, h4⟩
  · obtain rfl : zs = [] := List.eq_nil_of_length_eq_zero h0
    exact ⟨X, hx.add hA, AgX.nil X⟩
  · refine ⟨_, hx.more hA g _ hg (by omega), _, cap, rfl, fun i hi => ⟨g, 0, cur, _, rfl, List.mem_cons_self, ?_⟩⟩
    rw [Nat.zero_add, ← Array.getElem?_toList]
    have h5 : (I zs)[i]? = some (.int .i64 zs[i]) := by simp [I, hi]
    rw [← h4, List.getElem?_take] at h5
    split at h5
    · exact h5
    · cases h5
set_option maxRecDepth 100000 in
/-- Without the first one. -/
theorem AgX.tail {X : List (Nat × Obj)} {a : Option Addr} {m cap : Nat} {z : Int} {zs : List Int} (h : AgX X (.slice a m cap) (z :: zs)) : ∃ b o, a = some ⟨b, o, none⟩ ∧ AgX X (.slice (some ⟨b, o + 1, none⟩) zs.length (cap - 1)) zs := by
  obtain ⟨a', cap', e, hg⟩ := h
  cases e
  obtain ⟨b, o, cs, fr, ea, _, _⟩ := hg 0 (by simp)
  refine ⟨b, o, ea, _, _, rfl, fun i hi => ?_⟩
  obtain ⟨b2, o2, cs2, fr2, ea2, hm2, hc2⟩ := hg (i + 1) (by simpa using hi)
  rw [ea] at ea2
  cases ea2
  refine ⟨b, o + 1, cs2, fr2, rfl, hm2, ?_⟩
  rw [show o + 1 + i = o + (i + 1) by omega, hc2]
  simp
end Go.Proofs.YtjbdchgadfhffaaDoor

/- Two pools over one disk in a law's memory, with other blocks that are nobody's. -/
namespace Go.Proofs.YtjbdchgadfhffaaDoor
open Go.RowKit

/-- The pools p and q on the disk dp; other blocks X. -/
structure L2 (w0 w : World) (O1 O2 OD : Nat → Prop) (X : List (Nat × Obj)) (p q dp : Nat) (s1 s2 : F.Po) (D : dSt) (n1 n2 k : Nat) : Prop where
  p1 : IsPool w O1 p dp s1 n1
  p2 : IsPool w O2 q dp s2 n2
  disk : IsDO w OD dp D
  ok : DOk D k
  ap12 : ∀ j, O1 j → ¬ O2 j
  ap1 : ∀ j, O1 j → ¬ OD j
  ap2 : ∀ j, O2 j → ¬ OD j
  low : ∀ j, O1 j ∨ O2 j ∨ OD j → w0.heap.size ≤ j
  lt : ∀ j, O1 j ∨ O2 j ∨ OD j → j < w.heap.size
  adds : Adds w0 w
  tab : Tab w0
  g1 : F.Good s1
  g2 : F.Good s2
  k1 : POk s1 D
  k2 : POk s2 D
  oth : ∀ x ∈ X, w.heap[x.1]? = some x.2 ∧ ¬ (O1 x.1 ∨ O2 x.1 ∨ OD x.1)
def L2E (w0 w : World) (X : List (Nat × Obj)) (p q dp : Nat) (s1 s2 : F.Po) (D : dSt) (n1 n2 k : Nat) : Prop := ∃ O1 O2 OD, L2 w0 w O1 O2 OD X p q dp s1 s2 D n1 n2 k
set_option maxRecDepth 100000 in
theorem L2E.adds {w0 w : World} {X : List (Nat × Obj)} {p q dp : Nat} {s1 s2 : F.Po} {D : dSt} {n1 n2 k : Nat} (h : L2E w0 w X p q dp s1 s2 D n1 n2 k) : Adds w0 w := by obtain ⟨_, _, _, h⟩ := h; exact h.adds
set_option maxRecDepth 100000 in
theorem L2E.at {w0 w : World} {X : List (Nat × Obj)} {p q dp : Nat} {s1 s2 : F.Po} {D : dSt} {n1 n2 k : Nat} (h : L2E w0 w X p q dp s1 s2 D n1 n2 k) (x : Nat × Obj) (hx : x ∈ X) : w.heap[x.1]? = some x.2 := by obtain ⟨_, _, _, h⟩ := h; exact (h.oth x hx).1
set_option maxRecDepth 100000 in
theorem L2E.add {w0 w w' : World} {X : List (Nat × Obj)} {p q dp : Nat} {s1 s2 : F.Po} {D : dSt} {n1 n2 k : Nat} (h : L2E w0 w X p q dp s1 s2 D n1 n2 k) (hA : Adds w w') : L2E w0 w' X p q dp s1 s2 D n1 n2 k := by
  obtain ⟨O1, O2, OD, h⟩ := h
  exact ⟨O1, O2, OD, h.p1.adds hA, h.p2.adds hA, h.disk.adds hA, h.ok, h.ap12, h.ap1, h.ap2, h.low, fun j c => Nat.lt_of_lt_of_le (h.lt j c) hA.size, h.adds.trans hA, h.tab, h.g1, h.g2, h.k1, h.k2, fun x hx => ⟨by rw [hA.block x.1 (Array.getElem?_eq_some_iff.1 (h.oth x hx).1).1 id]; exact (h.oth x hx).1, (h.oth x hx).2⟩⟩
set_option maxRecDepth 100000 in
/-- The first pool has moved. -/
theorem L2.first {w0 w w' : World} {O1 O2 OD O' : Nat → Prop} {X : List (Nat × Obj)} {p q dp : Nat} {s1 s2 s' : F.Po} {D : dSt} {n1 n2 n' k : Nat} (h : L2 w0 w O1 O2 OD X p q dp s1 s2 D n1 n2 k) (hp : IsPool w' O' p dp s' n') (hT : Touch O1 w w') (hO : ∀ j, O' j → O1 j ∨ (w.heap.size ≤ j ∧ j < w'.heap.size)) (hg : F.Good s') (hk : POk s' D) : L2 w0 w' O' O2 OD X p q dp s' s2 D n' n2 k := by
  have hz := hT.size
  have hz0 := h.adds.size
  refine ⟨hp, h.p2.touch hT (fun j c c' => h.ap12 j c' c), h.disk.touch hT (fun j c c' => h.ap1 j c' c), h.ok, fun j c c' => ?_, fun j c c' => ?_, h.ap2, fun j c => ?_, fun j c => ?_, h.adds.then hT (fun j hj c => by have := h.low j (.inl c); omega), h.tab, hg, h.g2, hk, h.k2, fun x hx => ?_⟩
  · rcases hO j c with c | c
    · exact h.ap12 j c c'
    · have := h.lt j (.inr (.inl c')); omega
  · rcases hO j c with c | c
    · exact h.ap1 j c c'
    · have := h.lt j (.inr (.inr c')); omega
  · rcases c with c | c
    · rcases hO j c with c | c
      · exact h.low j (.inl c)
      · omega
    · exact h.low j (.inr c)
  · rcases c with c | c
    · rcases hO j c with c | c
      · exact Nat.lt_of_lt_of_le (h.lt j (.inl c)) hz
      · exact c.2
    · exact Nat.lt_of_lt_of_le (h.lt j (.inr c)) hz
  · have hl := (Array.getElem?_eq_some_iff.1 (h.oth x hx).1).1
    refine ⟨by rw [hT.block x.1 hl (fun c => (h.oth x hx).2 (.inl c))]; exact (h.oth x hx).1, fun c => ?_⟩
    rcases c with c | c
    · rcases hO x.1 c with c | c
      · exact (h.oth x hx).2 (.inl c)
      · omega
    · exact (h.oth x hx).2 (.inr c)
theorem L2.swap {w0 w : World} {O1 O2 OD : Nat → Prop} {X : List (Nat × Obj)} {p q dp : Nat} {s1 s2 : F.Po} {D : dSt} {n1 n2 k : Nat} (h : L2 w0 w O1 O2 OD X p q dp s1 s2 D n1 n2 k) : L2 w0 w O2 O1 OD X q p dp s2 s1 D n2 n1 k :=
  ⟨h.p2, h.p1, h.disk, h.ok, fun j c c' => h.ap12 j c' c, h.ap2, h.ap1, fun j c => h.low j (by rcases c with c | c | c; exact .inr (.inl c); exact .inl c; exact .inr (.inr c)), fun j c => h.lt j (by rcases c with c | c | c; exact .inr (.inl c); exact .inl c; exact .inr (.inr c)), h.adds, h.tab, h.g2, h.g1, h.k2, h.k1, fun x hx => ⟨(h.oth x hx).1, fun c => (h.oth x hx).2 (by rcases c with c | c | c; exact .inr (.inl c); exact .inl c; exact .inr (.inr c))⟩⟩
set_option maxRecDepth 100000 in
theorem L2E.swap {w0 w : World} {X : List (Nat × Obj)} {p q dp : Nat} {s1 s2 : F.Po} {D : dSt} {n1 n2 k : Nat} (h : L2E w0 w X p q dp s1 s2 D n1 n2 k) : L2E w0 w X q p dp s2 s1 D n2 n1 k := by
  obtain ⟨O1, O2, OD, h⟩ := h
  exact ⟨O2, O1, OD, h.swap⟩
/-- What Get of the first pool tells. -/
def PL2g (w0 w : World) (X : List (Nat × Obj)) (p q dp : Nat) (s1 s2 : F.Po) (D : dSt) (n1 n2 k z : Nat) (bs : List UInt8) (e : Ending) (w' : World) : Prop := ∃ v, e = .returned (.tuple #[v, .int .i64 (z : Int)]) ∧ Hid (w'.ownsRow w.heap.size 5 1 v bs.length (S bs) ∧ L2E w0 w' X p q dp s1 s2 D n1 n2 k)
set_option maxRecDepth 100000 in
theorem l2_get {w0 w : World} {X : List (Nat × Obj)} {p q dp : Nat} {s1 s2 : F.Po} {D : dSt} {n1 n2 k : Nat} (h : L2E w0 w X p q dp s1 s2 D n1 n2 k) (hn : n1 + 1 ≤ 1000000) (hk9 : k ≤ 900) (no : Int) :
    Calls Tryd.prog 8 #[Ptr p, .int .i64 no] w (PL2g w0 w X p q dp (F.getS s1 D no) s2 D (n1 + 1) n2 k (F.getE s1 D no) (F.getB s1 D no)) := by
  obtain ⟨O1, O2, OD, h⟩ := h
  refine (bget_any h.p1 hn (fun j c => h.lt j (.inl c)) h.disk h.ok hk9 h.k1 (h.tab.adds h.adds) no).mono ?_
  rintro e w' ⟨v, rfl, H⟩
  obtain ⟨h0, O', h1, h2, h3, _⟩ := H.out
  exact ⟨v, rfl, h0, O', O2, OD, h.first h1 h2 h3 (h.g1.get D no) (h.k1.same (F.get_same s1 D no) rfl)⟩
set_option maxRecDepth 100000 in
/-- Another pool is opened beside the first one. -/
theorem l2_open {w0 w : World} {X : List (Nat × Obj)} {p dp : Nat} {s : F.Po} {D : dSt} {n k : Nat} (h : LpX w0 w X p dp s D n k) (fr ct mo : Int) (hb : F.openOk D fr ct mo = true) :
    Calls Tryd.prog 7 #[Ptr dp, .int .i64 fr, .int .i64 ct, .int .i64 mo] w (fun e w' => ∃ q, e = .returned (.tuple #[Ptr q, .int .i64 0]) ∧ Hid (L2E w0 w' X p q dp s ⟨fr, ct, mo, []⟩ D n 0 k)) := by
  obtain ⟨O, OD, h, hX⟩ := h
  refine (bopen_ok h.disk h.ok h.pok.size fr ct mo hb).mono ?_
  rintro e w' ⟨q, rfl, H⟩
  have hA := H.out.2
  have hz := hA.size
  have hz0 := h.adds.size
  have hb' : 0 ≤ fr ∧ 1 ≤ ct ∧ ct ≤ 4096 ∧ fr + ct ≤ D.size ∧ 1 ≤ mo ∧ mo ≤ 256 := by simpa [F.openOk] using hb
  refine ⟨q, rfl, O, _, OD, h.pool.adds hA, H.out.1, h.disk.adds hA, h.ok, fun j c c' => ?_, h.apart, fun j c c' => ?_, fun j c => ?_, fun j c => ?_, h.adds.trans hA, h.tab, h.good, ⟨fun f hf => (by cases hf), fun f hf => (by cases hf), fun f hf => (by cases hf), by show (0 : Int) ≤ mo; omega, List.nodup_nil⟩, h.pok, ⟨hb'.1, hb'.2.1, hb'.2.2.2.1, h.pok.size, hb'.2.2.2.2.1, hb'.2.2.2.2.2⟩, fun x hx => ?_⟩
  · have := h.lt j (.inl c); omega
  · have := h.lt j (.inr c'); omega
  · rcases c with c | c | c
    · exact h.low j (.inl c)
    · omega
    · exact h.low j (.inr c)
  · rcases c with c | c | c
    · exact Nat.lt_of_lt_of_le (h.lt j (.inl c)) hz
    · exact c.2
    · exact Nat.lt_of_lt_of_le (h.lt j (.inr c)) hz
  · have hl := (Array.getElem?_eq_some_iff.1 (hX x hx).1).1
    refine ⟨by rw [hA.block x.1 hl id]; exact (hX x hx).1, fun c => ?_⟩
    rcases c with c | c | c
    · exact (hX x hx).2 (.inl c)
    · omega
    · exact (hX x hx).2 (.inr c)
end Go.Proofs.YtjbdchgadfhffaaDoor
