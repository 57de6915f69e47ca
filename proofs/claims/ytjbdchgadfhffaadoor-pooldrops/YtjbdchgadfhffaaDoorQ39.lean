/- Texts put together: FDMath, FLasts1. -/
import Derived.Test.YtjbdchgadfhffaaDoorQ37
import Derived.Test.YtjbdchgadfhffaaDoorQ38
import Derived.Deep.RegionWith
import Derived.Deep.QuietTactic
import Derived.BigQuiet
/- What the law PoolDrops knows of its pool, step by step. -/
namespace Go.Proofs.YtjbdchgadfhffaaDoor
open Go.RowKit

namespace F
set_option maxRecDepth 100000 in
theorem at_none {L : List Fr} {k : Int} (h : ∀ f ∈ L, f.no ≠ k) : at? L k = none := by
  unfold at?
  rw [List.find?_eq_none]
  intro f hf
  simpa using h f hf
set_option maxRecDepth 100000 in
theorem at_filter {m : Fr → Bool} {k : Int} : ∀ {L : List Fr}, (L.map (·.no)).Nodup → at? (L.filter m) k = (at? L k).filter m
  | [], _ => rfl
  | f :: L, h => by
    obtain ⟨h1, h2⟩ := List.nodup_cons.1 h
    have ih := at_filter (m := m) (k := k) h2
    by_cases e : f.no = k
    · have e1 : at? (f :: L) k = some f := by unfold at?; rw [List.find?_cons]; simp [e]
      have hno : at? (L.filter m) k = none := at_none (fun g hg c => h1 (List.mem_map.2 ⟨g, (List.mem_filter.1 hg).1, by show g.no = f.no; rw [c, e]⟩))
      rw [e1, List.filter_cons]
      cases hm : m f with
      | true => simp only [if_true]; rw [show at? (f :: L.filter m) k = some f by unfold at?; rw [List.find?_cons]; simp [e]]; simp [Option.filter, hm]
      | false => simp only [Bool.false_eq_true, if_false]; rw [hno]; simp [Option.filter, hm]
    · have e1 : at? (f :: L) k = at? L k := by unfold at?; rw [List.find?_cons]; simp [e]
      rw [e1, List.filter_cons]
      cases hm : m f with
      | true => simp only [if_true]; rw [show at? (f :: L.filter m) k = at? (L.filter m) k by unfold at?; rw [List.find?_cons]; simp [e], ih]
      | false => simp only [Bool.false_eq_true, if_false]; exact ih
set_option maxRecDepth 100000 in
theorem at_drop {s : Po} (h : (s.L.map (·.no)).Nodup) (k : Int) : at? (dropS s).L k = ((at? s.L k).filter kept).map drp := by
  show at? ((s.L.filter kept).map drp) k = _
  rw [at_map drp_no, at_filter h]
set_option maxRecDepth 100000 in
theorem Good.drop {s : Po} (h : Good s) : Good (dropS s) := by
  have hm : ∀ g ∈ (dropS s).L, ∃ f ∈ s.L, kept f = true ∧ drp f = g := fun g hg => by
    obtain ⟨f, hf, e⟩ := List.mem_map.1 hg
    exact ⟨f, (List.mem_filter.1 hf).1, (List.mem_filter.1 hf).2, e⟩
  have hsub : ((dropS s).L.map (·.no)).Sublist (s.L.map (·.no)) := by
    show (((s.L.filter kept).map drp).map (·.no)).Sublist _
    rw [List.map_map]
    have e : (s.L.filter kept).map ((·.no) ∘ drp) = (s.L.filter kept).map (·.no) := List.map_congr_left (fun f _ => drp_no f)
    rw [e]
    exact List.filter_sublist.map _
  refine ⟨fun g hg => ?_, fun g hg => ?_, fun g hg h1 _ => ?_, ?_, h.nd.sublist hsub⟩
  · obtain ⟨f, hf, _, rfl⟩ := hm g hg
    rw [drp_no]; exact h.nos f hf
  · obtain ⟨f, hf, hk, rfl⟩ := hm g hg
    rw [drp_no]
    unfold drp
    cases hfr : f.fresh with
    | false => exact h.pgs f hf
    | true => exact h.was f hf hfr (by unfold kept at hk; rw [hfr] at hk; simpa using hk)
  · obtain ⟨f, hf, _, rfl⟩ := hm g hg
    unfold drp at h1
    cases hfr : f.fresh with
    | false => rw [hfr] at h1; simp at h1; rw [hfr] at h1; cases h1
    | true => rw [hfr] at h1; simp at h1
  · have := hsub.length_le
    rw [List.length_map, List.length_map] at this
    have := h.len
    show (((dropS s).L.length : Nat) : Int) ≤ s.mo
    omega
end F
/-- A page's frame, or none, by what it is now, what it was, what lies on the disk. -/
def Pg1 (no : Nat) (x : Option F.Fr) (nw ws dk : Option UInt8) : Prop := match x with
  | none => nw = ws ∧ dk = ws
  | some f => ∃ c, nw = some c ∧ f.now = pl no c ∧ (f.fresh = true → f.dirty = true → ∃ c0, ws = some c0 ∧ f.was = pl no c0) ∧ (f.fresh = true → f.dirty = false → dk = ws) ∧ (f.fresh = false → ws = some c) ∧ (f.fresh = false → f.dirty = false → dk = some c)
/-- The pool's pages, by what is said of them. -/
structure Pv (s : F.Po) (D : dSt) (nw ws : Nat → Option UInt8) : Prop where
  six : F.Six s
  dk : ∃ dk, Dk D dk ∧ ∀ no, no < 6 → Pg1 no (F.at? s.L (no : Int)) (nw no) (ws no) (dk no)
theorem pv0 : Pv ⟨0, 6, 8, []⟩ (dSt.new 6) (fun _ => none) (fun _ => none) :=
  ⟨⟨rfl, rfl, .inr rfl⟩, fun _ => none, ⟨rfl, rfl, fun _ _ => rfl⟩, fun _ _ => ⟨rfl, rfl⟩⟩
set_option maxRecDepth 100000 in
theorem Pv.put {s : F.Po} {D : dSt} {nw ws : Nat → Option UInt8} (h : Pv s D nw ws) (hg : F.Good s) {no : Nat} (hno : no < 6) (c : UInt8) : F.putE s (no : Int) (pl no c) = 0 ∧ Pv (F.putS s (no : Int) (pl no c)) D (say nw no c) ws := by
  have hn := F.six_need h.six hg (no := (no : Int)) (by omega)
  have hin : F.inPool s (no : Int) = true := by unfold F.inPool; rw [h.six.ct]; simp; omega
  obtain ⟨e1, e2⟩ := put_pl (s := s) (no := no) (by omega) c hin hn.2
  refine ⟨e1, ?_⟩
  rw [e2]
  obtain ⟨dk, hD, hp⟩ := h.dk
  have hat := fun k : Int => F.at_held (s := s) (no := (no : Int)) (k := k) (f := ⟨(no : Int), pl no c, F.wasB s no, true, F.wasD s no⟩) hn.1 rfl
  refine ⟨⟨h.six.fr, h.six.ct, h.six.mo⟩, dk, hD, fun k hk => ?_⟩
  by_cases e : k = no
  · subst e
    rw [hat, if_pos rfl]
    have hs : say nw k c k = some c := by unfold say; rw [if_pos rfl]
    rw [hs]
    have q := hp k hk
    refine ⟨c, rfl, rfl, fun _ hd => ?_, fun _ hd => ?_, (by intro c; cases c), (by intro c; cases c)⟩
    · have hd' : F.wasD s k = true := hd
      show ∃ c0, ws k = some c0 ∧ F.wasB s k = pl k c0
      unfold F.wasD at hd'
      unfold F.wasB
      cases ha : F.at? s.L (k : Int) with
      | none => rw [ha] at hd'; cases hd'
      | some f =>
        rw [ha] at hd' q
        have hd2 : f.dirty = true := hd'
        obtain ⟨c1, q1, q2, q3, q4, q5, q6⟩ := q
        cases hf : f.fresh with
        | true => simpa [hf] using q3 hf hd2
        | false => exact ⟨c1, q5 hf, by simp [hf, hd2, q2]⟩
    · have hd' : F.wasD s k = false := hd
      unfold F.wasD at hd'
      cases ha : F.at? s.L (k : Int) with
      | none => rw [ha] at q; exact q.2
      | some f =>
        rw [ha] at hd' q
        have hd2 : f.dirty = false := hd'
        obtain ⟨c1, q1, q2, q3, q4, q5, q6⟩ := q
        cases hf : f.fresh with
        | true => exact q4 hf hd2
        | false => rw [q6 hf hd2, q5 hf]
  · have hs : say nw no c k = nw k := by unfold say; rw [if_neg e]
    rw [hat, if_neg (by omega), hs]
    exact hp k hk
set_option maxRecDepth 100000 in
theorem Pv.acc {s : F.Po} {D : dSt} {nw ws : Nat → Option UInt8} (h : Pv s D nw ws) : Pv (F.accS s) D nw nw := by
  obtain ⟨dk, hD, hp⟩ := h.dk
  refine ⟨⟨h.six.fr, h.six.ct, h.six.mo⟩, dk, hD, fun k hk => ?_⟩
  have q := hp k hk
  show Pg1 k (F.at? (s.L.map F.acc) _) _ _ _
  rw [F.at_map F.acc_no]
  cases ha : F.at? s.L (k : Int) with
  | none =>
    rw [ha] at q
    exact ⟨rfl, by rw [q.2, q.1]⟩
  | some f =>
    rw [ha] at q
    obtain ⟨c1, q1, q2, q3, q4, q5, q6⟩ := q
    show Pg1 k (some (F.acc f)) _ _ _
    cases hf : f.fresh with
    | true =>
      have e : F.acc f = { f with was := [], fresh := false, dirty := true } := by unfold F.acc; rw [hf]; rfl
      rw [e]
      exact ⟨c1, q1, q2, (by intro c; cases c), (by intro c; cases c), fun _ => q1, (by intro _ c; cases c)⟩
    | false =>
      have e : F.acc f = f := by unfold F.acc; rw [hf]; rfl
      rw [e]
      exact ⟨c1, q1, q2, (by intro c; rw [hf] at c; cases c), (by intro c; rw [hf] at c; cases c), fun _ => q1, fun a b => q6 a b⟩
set_option maxRecDepth 100000 in
theorem Pv.drop {s : F.Po} {D : dSt} {nw ws : Nat → Option UInt8} (h : Pv s D nw ws) (hg : F.Good s) : Pv (F.dropS s) D ws ws := by
  obtain ⟨dk, hD, hp⟩ := h.dk
  refine ⟨⟨h.six.fr, h.six.ct, h.six.mo⟩, dk, hD, fun k hk => ?_⟩
  have q := hp k hk
  rw [F.at_drop hg.nd]
  cases ha : F.at? s.L (k : Int) with
  | none =>
    rw [ha] at q
    exact ⟨rfl, q.2⟩
  | some f =>
    rw [ha] at q
    obtain ⟨c1, q1, q2, q3, q4, q5, q6⟩ := q
    cases hf : f.fresh with
    | true =>
      cases hd : f.dirty with
      | true =>
        obtain ⟨c0, p1, p2⟩ := q3 hf hd
        have e : Option.map F.drp (Option.filter F.kept (some f)) = some { f with now := f.was, was := [], fresh := false } := by
          simp [Option.filter, F.kept, F.drp, hf, hd]
        rw [e]
        exact ⟨c0, p1, p2, (by intro c; cases c), (by intro c; cases c), fun _ => p1, fun _ c => by rw [show f.dirty = false from c] at hd; cases hd⟩
      | false =>
        have e : Option.map F.drp (Option.filter F.kept (some f)) = none := by
          simp [Option.filter, F.kept, hf, hd]
        rw [e]
        exact ⟨rfl, q4 hf hd⟩
    | false =>
      have e : Option.map F.drp (Option.filter F.kept (some f)) = some f := by
        simp [Option.filter, F.kept, F.drp, hf]
      rw [e]
      exact ⟨c1, q5 hf, q2, (by intro c; rw [hf] at c; cases c), (by intro c; rw [hf] at c; cases c), fun _ => q5 hf, fun a b => q6 a b⟩
set_option maxRecDepth 100000 in
/-- Flush while a page is fresh. -/
theorem fl_fresh {s : F.Po} {D : dSt} (h : F.which s F.isFresh ≠ []) : F.flX s D = (42, D) ∧ F.flS s D = s := by
  have e : F.flX s D = (42, D) := by unfold F.flX; rw [if_neg h]
  refine ⟨e, ?_⟩
  unfold F.flS
  rw [e]
  rfl
/-- What lies on the disk behind a Flush. -/
def dkF (s : F.Po) (nw dk : Nat → Option UInt8) (k : Nat) : Option UInt8 := match F.at? s.L (k : Int) with
  | some f => if f.dirty then nw k else dk k
  | none => dk k
set_option maxRecDepth 100000 in
theorem dkF_some {s : F.Po} {nw dk : Nat → Option UInt8} {k : Nat} {f : F.Fr} (h : F.at? s.L (k : Int) = some f) : dkF s nw dk k = if f.dirty then nw k else dk k := by unfold dkF; rw [h]
set_option maxRecDepth 100000 in
theorem dkF_none {s : F.Po} {nw dk : Nat → Option UInt8} {k : Nat} (h : F.at? s.L (k : Int) = none) : dkF s nw dk k = dk k := by unfold dkF; rw [h]
set_option maxRecDepth 100000 in
theorem Pv.flush {s : F.Po} {D : dSt} {nw ws : Nat → Option UInt8} (h : Pv s D nw ws) (hg : F.Good s) (hfr : F.which s F.isFresh = []) : (F.flX s D).1 = 0 ∧ Pv (F.flS s D) (F.flX s D).2 nw ws ∧ F.which (F.flS s D) F.isFresh = [] := by
  obtain ⟨dk, hD, hp⟩ := h.dk
  obtain ⟨h1, h2, h3, h4⟩ := fl_has h.six hg hfr hD.on hD.w
  have hS : F.flS s D = { s with L := s.L.map F.cln } := by unfold F.flS; rw [if_pos h1]
  have hnf := F.which_nil hfr
  refine ⟨h1, ?_, ?_⟩
  · rw [hS]
    refine ⟨⟨h.six.fr, h.six.ct, h.six.mo⟩, dkF s nw dk, ⟨h2, h3, fun k hk => ?_⟩, fun k hk => ?_⟩
    · have q := h4 (k : Int)
      rw [h3] at q
      have q' : (F.flX s D).2.H (k : Int) = _ := q
      rw [q']
      have r := hp k hk
      cases ha : F.at? s.L (k : Int) with
      | none => rw [dkF_none ha]; exact hD.has k hk
      | some f =>
        rw [ha] at r
        obtain ⟨c1, q1, q2, _⟩ := r
        rw [dkF_some ha]
        by_cases hd : f.dirty = true
        · simp only [if_pos hd]; rw [q1, q2]
        · simp only [if_neg hd]; exact hD.has k hk
    · have r := hp k hk
      show Pg1 k (F.at? (s.L.map F.cln) _) _ _ _
      rw [F.at_map F.cln_no]
      cases ha : F.at? s.L (k : Int) with
      | none => rw [dkF_none ha]; rw [ha] at r; exact r
      | some f =>
        rw [ha] at r
        obtain ⟨c1, q1, q2, q3, q4, q5, q6⟩ := r
        have hf : f.fresh = false := hnf f (F.at_mem ha).1
        have e : F.cln f = { f with dirty := false } := by unfold F.cln; rw [hf]; rfl
        show Pg1 k (some (F.cln f)) _ _ _
        rw [e, dkF_some ha]
        refine ⟨c1, q1, q2, (by intro c; rw [show f.fresh = true from c] at hf; cases hf), (by intro c; rw [show f.fresh = true from c] at hf; cases hf), fun _ => q5 hf, fun _ _ => ?_⟩
        by_cases hd : f.dirty = true
        · rw [if_pos hd]; exact q1
        · rw [if_neg hd]; exact q6 hf (by simpa using hd)
  · rw [hS]
    unfold F.which
    have : (s.L.map F.cln).filter F.isFresh = [] := List.filter_eq_nil_iff.2 (fun g hg' => by
      obtain ⟨x, hx, rfl⟩ := List.mem_map.1 hg'
      have hf : x.fresh = false := hnf x hx
      unfold F.isFresh F.cln
      simp [hf])
    show rise (((s.L.map F.cln).filter F.isFresh).map (·.no)) = []
    rw [this]
    exact rise_nil
set_option maxRecDepth 100000 in
theorem Pv.get {s : F.Po} {D : dSt} {nw ws : Nat → Option UInt8} (h : Pv s D nw ws) (hg : F.Good s) {no : Nat} (hno : no < 6) :
    (F.getE s D (no : Int) = 0 ↔ nw no ≠ none) ∧ F.getB s D (no : Int) = tx no (nw no) ∧ Pv (F.getS s D (no : Int)) D nw ws := by
  obtain ⟨dk, hD, hp⟩ := h.dk
  have hn := F.six_need h.six hg (no := (no : Int)) (by omega)
  have hin : F.inPool s (no : Int) = true := by unfold F.inPool; rw [h.six.ct]; simp; omega
  have q := hp no hno
  cases ha : F.at? s.L (no : Int) with
  | none =>
    rw [ha] at q
    have e0 : F.getE s D (no : Int) = M.openE (D.H (no : Int)) (no : Int) := by
      unfold F.getE F.rdE
      simp only [hin, ha, hn.2, Option.isSome_none, Bool.false_eq_true, if_false, if_true]
      rw [if_neg (by rw [hD.on]; decide), h.six.fr, hD.w, Int.zero_add]
      rfl
    have eB : F.rdB s D (no : Int) = M.openP (D.H (no : Int)) (no : Int) := by
      unfold F.rdB
      rw [h.six.fr, hD.w]
      show M.openP (D.H (0 + (no : Int))) (no : Int) = _
      rw [Int.zero_add]
    rw [hD.has no hno, q.2, ← q.1] at e0 eB
    cases hf : nw no with
    | none =>
      rw [hf] at e0
      have e1 : F.getE s D (no : Int) ≠ 0 := by rw [e0]; exact zeros_no _
      exact ⟨⟨fun c => absurd c e1, fun c => absurd rfl c⟩, by unfold F.getB; rw [if_neg e1]; rfl, by unfold F.getS; rw [if_neg e1]; exact h⟩
    | some c =>
      rw [hf] at e0 eB
      have e1 : F.getE s D (no : Int) = 0 := by rw [e0]; exact (pl_open hno c).1
      have e2 : F.getF s D (no : Int) = ⟨(no : Int), pl no c, [], false, false⟩ := by unfold F.getF; rw [ha, eB]; show F.Fr.mk _ (M.openP (M.sealP (pl no c)) (no : Int)) _ _ _ = _; rw [(pl_open hno c).2]
      refine ⟨⟨fun _ e => (by cases e), fun _ => e1⟩, by unfold F.getB; rw [if_pos e1, e2]; rfl, ?_⟩
      unfold F.getS
      rw [if_pos e1, e2]
      have hat := fun k : Int => F.at_held (s := s) (no := (no : Int)) (k := k) (f := ⟨(no : Int), pl no c, [], false, false⟩) hn.1 rfl
      refine ⟨⟨h.six.fr, h.six.ct, h.six.mo⟩, dk, hD, fun k hk => ?_⟩
      by_cases e : k = no
      · subst e
        rw [hat, if_pos rfl]
        exact ⟨c, hf, rfl, (by intro c; cases c), (by intro c; cases c), fun _ => by rw [← q.1]; exact hf, fun _ _ => by rw [q.2, ← q.1]; exact hf⟩
      · rw [hat, if_neg (by omega)]
        exact hp k hk
  | some f =>
    have q0 := q
    rw [ha] at q
    obtain ⟨c, q1, q2, _⟩ := q
    have e1 : F.getE s D (no : Int) = 0 := by unfold F.getE; rw [hin, ha]; rfl
    have e2 : F.getF s D (no : Int) = f := by unfold F.getF; rw [ha]
    refine ⟨⟨fun _ e => (by rw [q1] at e; cases e), fun _ => e1⟩, by unfold F.getB; rw [if_pos e1, e2, q1, q2]; rfl, ?_⟩
    unfold F.getS
    rw [if_pos e1, e2]
    have hat := fun k : Int => F.at_held (s := s) (no := (no : Int)) (k := k) (f := f) hn.1 (F.at_mem ha).2
    refine ⟨⟨h.six.fr, h.six.ct, h.six.mo⟩, dk, hD, fun k hk => ?_⟩
    by_cases e : k = no
    · subst e
      rw [hat, if_pos rfl, ← ha]
      exact q0
    · rw [hat, if_neg (by omega)]
      exact hp k hk
set_option maxRecDepth 100000 in
theorem pv_few {s : F.Po} (h : F.Six s) (hg : F.Good s) (m : F.Fr → Bool) : (F.which s m).length ≤ 8 := by
  have h1 := hg.len
  have h2 := h.mo
  unfold F.which
  rw [length_rise, List.length_map]
  have := List.length_filter_le m s.L
  omega
set_option maxRecDepth 100000 in
theorem lx_drop {w0 w : World} {X : List (Nat × Obj)} {p dp : Nat} {s : F.Po} {D : dSt} {n k : Nat} (h : LpX w0 w X p dp s D n k) :
    Calls Tryd.prog 13 #[Ptr p] w (fun e w' => ∃ z : Int, e = .returned (.int .i64 z) ∧ Hid (LpX w0 w' X p dp (F.dropS s) D n k)) := by
  have hl := h.e.len
  obtain ⟨O, OD, h, q⟩ := h
  refine (bdrop_any h.pool (fun j c => h.lt j (.inl c)) hl).mono ?_
  rintro e w' ⟨rfl, H⟩
  obtain ⟨O', h1, h2, h3⟩ := H.out
  exact ⟨_, rfl, lx_moved h q h1 h2 h3 h.good.drop (h.pok.same ⟨rfl, rfl, rfl⟩ rfl)⟩
set_option maxRecDepth 100000 in
theorem lx_putk {w0 w w1 : World} {X : List (Nat × Obj)} {p dp : Nat} {s : F.Po} {D : dSt} {n k : Nat} (h : LpX w0 w X p dp s D n k) (hA : Adds w w1) (hn : n + 1 ≤ 1000000) (no : Int) (pa : Option Addr) (pk : Nat) (bs : List UInt8) (hrow : w1.ownsRow w.heap.size 5 1 (.slice pa 256 pk) 256 (S bs)) (hl : bs.length = 256) (hc : 256 ≤ pk) :
    Calls Tryd.prog 9 #[Ptr p, .int .i64 no, .slice pa 256 pk] w1 (fun e w' => e = .returned (.int .i64 (F.putE s no bs : Int)) ∧ Hid (LpX w0 w' X p dp (F.putS s no bs) D (n + 1) k ∧ At w' pa bs)) := by
  obtain ⟨O, OD, h, q⟩ := h
  have h1 := h.add hA
  refine (bput_any h1.pool hn no pa bs 256 pk hl hc (row_at hrow) h1.tabs).mono ?_
  rintro e w' ⟨rfl, H⟩
  obtain ⟨O', g1, g2, g3⟩ := H.out
  refine ⟨rfl, lx_moved h1 (fun x hx => ⟨by rw [hA.block x.1 (Array.getElem?_eq_some_iff.1 (q x hx).1).1 id]; exact (q x hx).1, (q x hx).2⟩) g1 g2 g3 (h1.good.put no bs) (h1.pok.same (F.put_same s no bs) rfl), ?_⟩
  exact row_at (row_keep hrow g2 (fun j hj c => by have := (row_low hrow hj).1; have := h.lt j (.inl c); omega))
end Go.Proofs.YtjbdchgadfhffaaDoor

/- The arrays as a whole; two Gets, one behind the other. -/
namespace Go.Proofs.YtjbdchgadfhffaaDoor
open Go.RowKit

def f0 : Nat → Option UInt8 := fun _ => none
set_option maxRecDepth 100000 in
theorem zeroArr (w : World) : (zeroValue 49).run Tryd.prog w = .ok (.agg (arr f0)) w := by kernel_rfl
theorem ph0 : Ph ⟨0, 6, 6, []⟩ f0 true := ⟨⟨rfl, rfl, .inl rfl⟩, fun _ _ _ => rfl, fun _ _ _ h => by cases h⟩
set_option maxRecDepth 100000 in
/-- The first array is laid into the second one. -/
theorem lx_all {w0 w : World} {gF g2 : Nat} {f g : Nat → Option UInt8} {p dp : Nat} {s : F.Po} {D : dSt} {n k : Nat} (h : LpX w0 w [(gF, AObj f), (g2, AObj g)] p dp s D n k) (hne : gF ≠ g2) (h0 : w0.heap.size ≤ g2) :
    LpX w0 ((((((w.setCell ⟨g2, 0, none⟩ (sv (tx 0 (f 0)))).setCell ⟨g2, 1, none⟩ (sv (tx 1 (f 1)))).setCell ⟨g2, 2, none⟩ (sv (tx 2 (f 2)))).setCell ⟨g2, 3, none⟩ (sv (tx 3 (f 3)))).setCell ⟨g2, 4, none⟩ (sv (tx 4 (f 4)))).setCell ⟨g2, 5, none⟩ (sv (tx 5 (f 5)))) [(g2, AObj f), (gF, AObj f)] p dp s D n k := by
  have b1 : w.heap[gF]? = some (AObj f) := h.at (gF, AObj f) List.mem_cons_self
  have b2 : w.heap[g2]? = some (AObj g) := h.at (g2, AObj g) (List.mem_cons_of_mem _ List.mem_cons_self)
  have q0 := heap_setCell_same w g2 0 _ 49 (sv (tx 0 (f 0))) b2
  have q1 := heap_setCell_same _ g2 1 _ 49 (sv (tx 1 (f 1))) q0
  have q2 := heap_setCell_same _ g2 2 _ 49 (sv (tx 2 (f 2))) q1
  have q3 := heap_setCell_same _ g2 3 _ 49 (sv (tx 3 (f 3))) q2
  have q4 := heap_setCell_same _ g2 4 _ 49 (sv (tx 4 (f 4))) q3
  have q5 := heap_setCell_same _ g2 5 _ 49 (sv (tx 5 (f 5))) q4
  have hT := ((((((Touch.refl (fun j => j = g2) w).setCell (p := ⟨g2, 0, none⟩) (fun _ => rfl) (sv (tx 0 (f 0)))).setCell (p := ⟨g2, 1, none⟩) (fun _ => rfl) (sv (tx 1 (f 1)))).setCell (p := ⟨g2, 2, none⟩) (fun _ => rfl) (sv (tx 2 (f 2)))).setCell (p := ⟨g2, 3, none⟩) (fun _ => rfl) (sv (tx 3 (f 3)))).setCell (p := ⟨g2, 4, none⟩) (fun _ => rfl) (sv (tx 4 (f 4)))).setCell (p := ⟨g2, 5, none⟩) (fun _ => rfl) (sv (tx 5 (f 5)))
  refine h.turn hT ⟨(g2, AObj g), List.mem_cons_of_mem _ List.mem_cons_self, rfl⟩ h0 (fun y hy => ?_)
  simp only [List.mem_cons, List.not_mem_nil, or_false] at hy
  rcases hy with rfl | rfl
  · exact ⟨⟨(g2, AObj g), List.mem_cons_of_mem _ List.mem_cons_self, rfl⟩, q5⟩
  · refine ⟨⟨(gF, AObj f), List.mem_cons_self, rfl⟩, ?_⟩
    rw [hT.block gF (Array.getElem?_eq_some_iff.1 b1).1 hne]
    exact b1
/-- The first pool's Get, and then the second pool's: both pages are told. -/
def L2K (w0 w : World) (X : List (Nat × Obj)) (p q dp : Nat) (s1 s2 : F.Po) (D : dSt) (n1 n2 k B : Nat) (v : Value) (bs : List UInt8) : Prop := ∃ O1 O2 OD, L2 w0 w O1 O2 OD X p q dp s1 s2 D n1 n2 k ∧ w.ownsRow B 5 1 v bs.length (S bs) ∧ ∀ j, v.ownBlock = some j → ¬ (O1 j ∨ O2 j ∨ OD j)
set_option maxRecDepth 100000 in
theorem l2k_first {w0 w : World} {X : List (Nat × Obj)} {p q dp : Nat} {s1 s2 : F.Po} {D : dSt} {n1 n2 k : Nat} (h : L2E w0 w X p q dp s1 s2 D n1 n2 k) (hn : n1 + 1 ≤ 1000000) (hk9 : k ≤ 900) (no : Int) :
    Calls Tryd.prog 8 #[Ptr p, .int .i64 no] w (fun e w' => ∃ a c, e = .returned (.tuple #[.slice a (F.getB s1 D no).length c, .int .i64 (F.getE s1 D no : Int)]) ∧ Hid (L2K w0 w' X p q dp (F.getS s1 D no) s2 D (n1 + 1) n2 k w.heap.size (.slice a (F.getB s1 D no).length c) (F.getB s1 D no))) := by
  obtain ⟨O1, O2, OD, h⟩ := h
  refine (bget_any h.p1 hn (fun j c => h.lt j (.inl c)) h.disk h.ok hk9 h.k1 (h.tab.adds h.adds) no).mono ?_
  rintro e w' ⟨v, rfl, H⟩
  obtain ⟨h0, O', h1, h2, h3, h4⟩ := H.out
  obtain ⟨a, c, ev, _⟩ := own_cq h0
  refine ⟨a, c, by rw [ev], ?_⟩
  rw [ev] at h0 h4
  refine ⟨O', O2, OD, h.first h1 h2 h3 (h.g1.get D no) (h.k1.same (F.get_same s1 D no) rfl), h0, fun j hj c' => ?_⟩
  have hlo := row_low h0 hj
  rcases c' with c' | c' | c'
  · exact h4 j hj c'
  · have := h.lt j (.inr (.inl c')); omega
  · have := h.lt j (.inr (.inr c')); omega
set_option maxRecDepth 100000 in
theorem l2k_then {w0 w : World} {X : List (Nat × Obj)} {p q dp : Nat} {s1 s2 : F.Po} {D : dSt} {n1 n2 k B m c0 : Nat} {a0 : Option Addr} {bs : List UInt8} (h : L2K w0 w X p q dp s1 s2 D n1 n2 k B (.slice a0 m c0) bs) (hm : bs.length = m) (hn : n2 + 1 ≤ 1000000) (hk9 : k ≤ 900) (no : Int) :
    Calls Tryd.prog 8 #[Ptr q, .int .i64 no] w (fun e w' => ∃ a c, e = .returned (.tuple #[.slice a (F.getB s2 D no).length c, .int .i64 (F.getE s2 D no : Int)]) ∧ Hid (L2E w0 w' X p q dp s1 (F.getS s2 D no) D n1 (n2 + 1) k ∧ At w' a0 bs ∧ At w' a (F.getB s2 D no))) := by
  obtain ⟨O1, O2, OD, h, hr, hno⟩ := h
  have g := h.swap
  refine (bget_any g.p1 hn (fun j c => g.lt j (.inl c)) g.disk g.ok hk9 g.k1 (g.tab.adds g.adds) no).mono ?_
  rintro e w' ⟨v, rfl, H⟩
  obtain ⟨h0, O', h1, h2, h3, h4⟩ := H.out
  obtain ⟨a, c, ev, _⟩ := own_cq h0
  refine ⟨a, c, by rw [ev], ?_⟩
  rw [ev] at h0
  have hr' := row_keep hr h2 (fun j hj c => hno j hj (.inr (.inl c)))
  subst hm
  exact ⟨⟨O1, O', OD, (g.first h1 h2 h3 (g.g1.get D no) (g.k1.same (F.get_same s2 D no) rfl)).swap⟩, row_at hr', row_at h0⟩
set_option maxRecDepth 100000 in
theorem tx_no {no : Nat} (hno : no < 6) (x : Option UInt8) {z : Int} (h : z = 0 ↔ x ≠ none) : ((z == 0) = true ∧ (⟨(tx no x).toArray⟩ : ByteArray).toList.isEmpty = false) ∨ ((z == 0) = false ∧ (⟨(tx no x).toArray⟩ : ByteArray).toList.isEmpty = true) := by
  cases x with
  | none =>
    have : z ≠ 0 := fun e => h.1 e rfl
    exact .inr ⟨by simpa using this, by simp [tx]⟩
  | some c =>
    refine .inl ⟨by simpa using h.2 (by intro c; cases c), ?_⟩
    have hl := pl_len (no := no) (by omega) c
    cases hp : pl no c with
    | nil => rw [hp] at hl; cases hl
    | cons y l => simp [tx, hp, ByteArray.toList_eq]
end Go.Proofs.YtjbdchgadfhffaaDoor
