/- Texts put together: FLMath, FLMath2. -/
import Derived.Test.YtjbdchgadfhffaaDoorQ34
import Derived.Test.YtjbdchgadfhffaaDoorQ35
/- Six pages in six frames: every Put has room; what a Flush leaves on the disk. -/
namespace Go.Proofs.YtjbdchgadfhffaaDoor
open Go.RowKit

/-- So many numbers, no more. -/
theorem few : ∀ (n : Nat) (l : List Int), l.Nodup → (∀ x ∈ l, 0 ≤ x ∧ x < (n : Int)) → l.length ≤ n
  | 0, l, _, h => by
    cases l with
    | nil => exact Nat.le_refl _
    | cons x l => have := h x List.mem_cons_self; omega
  | n + 1, l, hn, h => by
    by_cases hm : (n : Int) ∈ l
    · have hp := List.perm_cons_erase hm
      have hl := hp.length_eq
      have hn2 := hp.nodup_iff.1 hn
      have h3 := List.nodup_cons.1 hn2
      have := few n (l.erase (n : Int)) h3.2 (fun x hx => by
        have h1 := h x (hp.mem_iff.2 (List.mem_cons_of_mem _ hx))
        have h2 : x ≠ (n : Int) := fun e => h3.1 (by have q := hx; rw [e] at q; exact q)
        omega)
      rw [hl, List.length_cons]
      omega
    · have := few n l hn (fun x hx => by
        have h1 := h x hx
        have h2 : x ≠ (n : Int) := fun e => hm (by have q := hx; rw [e] at q; exact q)
        omega)
      omega
namespace F
/-- Six frames, or eight, for six pages. -/
structure Six (s : Po) : Prop where
  fr : s.fr = 0
  ct : s.ct = 6
  mo : s.mo = 6 ∨ s.mo = 8
set_option maxRecDepth 100000 in
theorem six_need {s : Po} (h : Six s) (hg : Good s) {no : Int} (hno : 0 ≤ no ∧ no < 6) : need s no = false ∧ room s no = true := by
  have key : need s no = false := by
    cases ha : at? s.L no with
    | some f => exact (need_at ha).1
    | none =>
      unfold need
      rw [ha]
      have hmo := h.mo
      have hlt : (s.L.map (·.no) ++ [no]).length ≤ 6 := by
        refine few 6 _ ?_ (fun x hx => ?_)
        · rw [List.nodup_append]
          refine ⟨hg.nd, by simp, fun x hx z hz e => ?_⟩
          obtain ⟨f, hf, rfl⟩ := List.mem_map.1 hx
          have hz' : z = no := by simpa using hz
          have := List.find?_eq_none.1 ha f hf
          simp [e, hz'] at this
        · rcases List.mem_append.1 hx with hx | hx
          · obtain ⟨f, hf, rfl⟩ := List.mem_map.1 hx
            have := hg.nos f hf
            rw [h.ct] at this
            exact this
          · rw [List.mem_singleton.1 hx]; exact hno
      rw [List.length_append, List.length_map, List.length_singleton] at hlt
      simp
      omega
  exact ⟨key, by unfold room; rw [key]; rfl⟩
set_option maxRecDepth 100000 in
theorem at_held {s : Po} {no k : Int} {f : Fr} (hn : need s no = false) (hf : f.no = no) : at? (held s no f).L k = if k = no then some f else at? s.L k := by
  have ho : out s no = s.L := by unfold out; rw [hn]; rfl
  show at? (sansF (out s no) no ++ [f]) k = _
  rw [ho]
  unfold at? sansF
  rw [List.find?_append]
  by_cases hk : k = no
  · rw [if_pos hk]
    have : (s.L.filter fun g => decide (g.no ≠ no)).find? (fun g => decide (g.no = k)) = none := by
      rw [List.find?_eq_none]
      intro g hg
      have := (List.mem_filter.1 hg).2
      simp at this
      simp [hk, this]
    rw [this]
    simp [hf, hk]
  · rw [if_neg hk]
    have h1 : (s.L.filter fun g => decide (g.no ≠ no)).find? (fun g => decide (g.no = k)) = s.L.find? (fun g => decide (g.no = k)) := by
      rw [List.find?_filter]
      congr 1
      funext g
      by_cases e : g.no = k
      · have : g.no ≠ no := fun e2 => hk (by rw [← e, e2])
        simp [e, hk]
      · simp [e]
    rw [h1]
    cases s.L.find? (fun g => decide (g.no = k)) with
    | some g => rfl
    | none => simp [hf]; exact fun e => hk e.symm
end F
set_option maxRecDepth 100000 in
/-- What lies on the disk behind a Flush that was not cut. -/
theorem fl_has {s : F.Po} {D : dSt} (h6 : F.Six s) (hg : F.Good s) (hfr : F.which s F.isFresh = []) (hon : D.left = -1) (hW : D.W = []) :
    (F.flX s D).1 = 0 ∧ (F.flX s D).2.left = -1 ∧ (F.flX s D).2.W = [] ∧ ∀ z : Int, hasOf (F.flX s D).2.H (F.flX s D).2.W z = (match F.at? s.L z with
      | some f => if f.dirty then M.sealP f.now else D.H z
      | none => D.H z) := by
  have hmem : ∀ z : Int, z ∈ F.which s F.isDirty ↔ ∃ f, F.at? s.L z = some f ∧ f.dirty = true := fun z => by
    rw [F.mem_which]
    constructor
    · rintro ⟨f, hf, hd, rfl⟩
      refine ⟨f, ?_, hd⟩
      cases ha : F.at? s.L f.no with
      | none => exact absurd (List.find?_eq_none.1 ha f hf) (by simp)
      | some g =>
        obtain ⟨hgm, hgn⟩ := F.at_mem ha
        have hn := hg.nd
        rw [List.nodup_iff_pairwise_ne, List.pairwise_map] at hn
        rw [show g = f from Classical.byContradiction fun hne => by
          obtain ⟨i, hi, rfl⟩ := List.mem_iff_getElem.1 hgm
          obtain ⟨j, hj, rfl⟩ := List.mem_iff_getElem.1 hf
          have hij : i ≠ j := fun e => hne (by subst e; rfl)
          rcases Nat.lt_or_gt_of_ne hij with q | q
          · exact (List.pairwise_iff_getElem.1 hn i j hi hj q) hgn
          · exact (List.pairwise_iff_getElem.1 hn j i hj hi q) hgn.symm]
    · rintro ⟨f, ha, hd⟩
      obtain ⟨hf, hn⟩ := F.at_mem ha
      exact ⟨f, hf, hd, hn⟩
  unfold F.flX
  rw [if_pos hfr]
  by_cases hz : F.which s F.isDirty = []
  · rw [if_pos hz]
    refine ⟨rfl, hon, hW, fun z => ?_⟩
    rw [hW]
    show D.H z = _
    cases ha : F.at? s.L z with
    | none => rfl
    | some f =>
      have : f.dirty = false := by
        cases hd : f.dirty
        · rfl
        · have := (hmem z).2 ⟨f, ha, hd⟩
          rw [hz] at this
          cases this
      simp [this]
  · rw [if_neg hz, goW_all (.inl hon)]
    refine ⟨rfl, ?_, rfl, fun z => ?_⟩
    · show less (wroteN D _ 0 _).left = -1
      rw [wroteN_uncut _ _ hon]; rfl
    · show syncH (wroteN D _ 0 _).H (wroteN D _ 0 _).W z = _
      rw [syncH_has, wroteN_H, wroteN_W, hW, List.nil_append]
      obtain ⟨zs, hzs⟩ : ∃ zs, zs = F.which s F.isDirty := ⟨_, rfl⟩
      rw [← hzs]
      have key : ∀ k, k ≤ zs.length → hasOf D.H ((List.range k).map (fun j => F.wrs s zs (0 + j))) z = if z ∈ zs.take k then F.flD s z else D.H z := by
        intro k
        induction k with
        | zero => intro _; simp [hasOf]
        | succ k ih =>
          intro hk
          have hkl : k < zs.length := hk
          rw [List.range_succ, List.map_append]
          unfold hasOf at ih ⊢
          rw [List.foldl_append, ih (by omega)]
          have e1 : F.wrs s zs (0 + k) = (0 + zs[k], F.flD s zs[k]) := by
            unfold F.wrs
            rw [h6.fr, Nat.zero_add, List.getD_eq_getElem?_getD, List.getElem?_eq_getElem hkl]
            rfl
          simp only [List.map_cons, List.map_nil, List.foldl_cons, List.foldl_nil, e1]
          rw [take_next' hkl]
          by_cases hc : zs[k] = z
          · rw [if_pos (by omega), if_pos (by simp [hc]), hc]
          · rw [if_neg (by omega)]
            have : (z ∈ zs.take k ++ [zs[k]]) ↔ z ∈ zs.take k := by
              rw [List.mem_append, List.mem_singleton]
              exact ⟨fun c => c.elim id (fun e => absurd e.symm hc), .inl⟩
            simp only [this]
      rw [key zs.length (Nat.le_refl _), List.take_length]
      by_cases hzm : z ∈ zs
      · rw [if_pos hzm]
        obtain ⟨f, ha, hd⟩ := (hmem z).1 (by rw [← hzs]; exact hzm)
        unfold F.flD
        rw [ha]
        simp [hd]
      · rw [if_neg hzm]
        cases ha : F.at? s.L z with
        | none => rfl
        | some f =>
          have : f.dirty = false := by
            cases hd : f.dirty
            · rfl
            · exact absurd ((hmem z).2 ⟨f, ha, hd⟩) (by rw [← hzs]; exact hzm)
          simp [this]
end Go.Proofs.YtjbdchgadfhffaaDoor

/- What the law PoolLasts knows of its pools, step by step. -/
namespace Go.Proofs.YtjbdchgadfhffaaDoor
open Go.RowKit

/-- What is said of a page: nothing, or that it is plain with a byte. -/
def tx (no : Nat) : Option UInt8 → List UInt8
  | none => []
  | some c => pl no c
/-- One more is said. -/
def say (f : Nat → Option UInt8) (no : Nat) (c : UInt8) : Nat → Option UInt8 := fun k => if k = no then some c else f k
namespace F
set_option maxRecDepth 100000 in
theorem at_map {L : List Fr} {g : Fr → Fr} (hg : ∀ f, (g f).no = f.no) (k : Int) : at? (L.map g) k = (at? L k).map g := by
  unfold at?
  induction L with
  | nil => rfl
  | cons x L ih =>
    rw [List.map_cons, List.find?_cons, List.find?_cons, hg]
    cases decide (x.no = k) with
    | true => rfl
    | false => exact ih
end F
/-- The pool's pages are those of which something is said; none is dirty; with 'all': all are fresh. -/
structure Ph (s : F.Po) (f : Nat → Option UInt8) (all : Bool) : Prop where
  six : F.Six s
  non : ∀ no, no < 6 → f no = none → F.at? s.L (no : Int) = none
  som : ∀ no, no < 6 → ∀ c, f no = some c → ∃ b, F.at? s.L (no : Int) = some ⟨(no : Int), pl no c, [], b, false⟩ ∧ (all = true → b = true)
set_option maxRecDepth 100000 in
theorem Ph.put {s : F.Po} {f : Nat → Option UInt8} {all : Bool} (h : Ph s f all) (hg : F.Good s) {no : Nat} (hno : no < 6) (c : UInt8) : F.putE s (no : Int) (pl no c) = 0 ∧ Ph (F.putS s (no : Int) (pl no c)) (say f no c) all := by
  have hn := F.six_need h.six hg (no := (no : Int)) (by omega)
  have hin : F.inPool s (no : Int) = true := by unfold F.inPool; rw [h.six.ct]; simp; omega
  obtain ⟨e1, e2⟩ := put_pl (s := s) (no := no) (by omega) c hin hn.2
  have hw : F.wasB s (no : Int) = [] ∧ F.wasD s (no : Int) = false := by
    unfold F.wasB F.wasD
    cases hf : f no with
    | none => rw [h.non no hno hf]; exact ⟨rfl, rfl⟩
    | some c0 =>
      obtain ⟨b, hb, _⟩ := h.som no hno c0 hf
      rw [hb]
      cases b <;> exact ⟨rfl, rfl⟩
  rw [hw.1, hw.2] at e2
  refine ⟨e1, ?_⟩
  rw [e2]
  have hat := fun k : Int => F.at_held (s := s) (no := (no : Int)) (k := k) (f := ⟨(no : Int), pl no c, [], true, false⟩) hn.1 rfl
  refine ⟨⟨h.six.fr, h.six.ct, h.six.mo⟩, fun k hk hf => ?_, fun k hk c' hf => ?_⟩
  · unfold say at hf
    split at hf
    · cases hf
    · rename_i hne
      rw [hat, if_neg (by omega)]
      exact h.non k hk hf
  · unfold say at hf
    split at hf
    · rename_i he
      subst he
      cases hf
      exact ⟨true, by rw [hat, if_pos rfl], fun _ => rfl⟩
    · rename_i hne
      obtain ⟨b, hb, ha⟩ := h.som k hk c' hf
      exact ⟨b, by rw [hat, if_neg (by omega)]; exact hb, ha⟩
/-- The same behind Accept: what was fresh is dirty. -/
structure Pa (s : F.Po) (f : Nat → Option UInt8) (all : Bool) : Prop where
  six : F.Six s
  non : ∀ no, no < 6 → f no = none → F.at? s.L (no : Int) = none
  som : ∀ no, no < 6 → ∀ c, f no = some c → ∃ b, F.at? s.L (no : Int) = some ⟨(no : Int), pl no c, [], false, b⟩ ∧ (all = true → b = true)
  fresh : ∀ g ∈ s.L, g.fresh = false
set_option maxRecDepth 100000 in
theorem Ph.acc {s : F.Po} {f : Nat → Option UInt8} {all : Bool} (h : Ph s f all) : Pa (F.accS s) f all := by
  refine ⟨⟨h.six.fr, h.six.ct, h.six.mo⟩, fun no hno hf => ?_, fun no hno c hf => ?_, fun g hg => ?_⟩
  · show F.at? (s.L.map F.acc) _ = none
    rw [F.at_map F.acc_no, h.non no hno hf]; rfl
  · obtain ⟨b, hb, ha⟩ := h.som no hno c hf
    refine ⟨b, ?_, ha⟩
    show F.at? (s.L.map F.acc) _ = _
    rw [F.at_map F.acc_no, hb]
    cases b <;> rfl
  · obtain ⟨x, hx, rfl⟩ := List.mem_map.1 hg
    unfold F.acc
    cases hf : x.fresh <;> simp [hf]
set_option maxRecDepth 100000 in
theorem Pa.which {s : F.Po} {f : Nat → Option UInt8} {all : Bool} (h : Pa s f all) : F.which s F.isFresh = [] := by
  unfold F.which
  have : s.L.filter F.isFresh = [] := List.filter_eq_nil_iff.2 (fun g hg => by unfold F.isFresh; rw [h.fresh g hg]; decide)
  rw [this]
  exact rise_nil
/-- What lies on the disk. -/
structure Dk (D : dSt) (f : Nat → Option UInt8) : Prop where
  on : D.left = -1
  w : D.W = []
  has : ∀ no : Nat, no < 6 → D.H (no : Int) = (match f no with
    | some c => M.sealP (pl no c)
    | none => zeros)
set_option maxRecDepth 100000 in
theorem Pa.flush {s : F.Po} {f : Nat → Option UInt8} (h : Pa s f true) (hg : F.Good s) : (F.flX s (dSt.new 6)).1 = 0 ∧ Dk (F.flX s (dSt.new 6)).2 f ∧ Ph (F.flS s (dSt.new 6)) f false ∧ F.which (F.flS s (dSt.new 6)) F.isDirty = [] := by
  obtain ⟨h1, h2, h3, h4⟩ := fl_has h.six hg h.which (D := dSt.new 6) rfl rfl
  have hS : F.flS s (dSt.new 6) = { s with L := s.L.map F.cln } := by unfold F.flS; rw [if_pos h1]
  refine ⟨h1, ⟨h2, h3, fun no hno => ?_⟩, ?_, ?_⟩
  · have q := h4 (no : Int)
    rw [h3] at q
    have q' : (F.flX s (dSt.new 6)).2.H (no : Int) = _ := q
    rw [q']
    cases hf : f no with
    | none => rw [h.non no hno hf]; rfl
    | some c =>
      obtain ⟨b, hb, ha⟩ := h.som no hno c hf
      rw [hb, ha rfl]; rfl
  · rw [hS]
    refine ⟨⟨h.six.fr, h.six.ct, h.six.mo⟩, fun no hno hf => ?_, fun no hno c hf => ?_⟩
    · show F.at? (s.L.map F.cln) _ = none
      rw [F.at_map F.cln_no, h.non no hno hf]; rfl
    · obtain ⟨b, hb, _⟩ := h.som no hno c hf
      refine ⟨false, ?_, fun e => by cases e⟩
      show F.at? (s.L.map F.cln) _ = _
      rw [F.at_map F.cln_no, hb]
      rfl
  · rw [hS]
    unfold F.which
    have : (s.L.map F.cln).filter F.isDirty = [] := List.filter_eq_nil_iff.2 (fun g hg' => by
      obtain ⟨x, hx, rfl⟩ := List.mem_map.1 hg'
      unfold F.isDirty F.cln
      rw [h.fresh x hx]
      simp)
    show rise (((s.L.map F.cln).filter F.isDirty).map (·.no)) = []
    rw [this]
    exact rise_nil
set_option maxRecDepth 100000 in
/-- A sector of bytes 0 is no page. -/
theorem zeros_no (no : Int) : M.openE zeros no ≠ 0 := by
  have hr : M.readP zeros = none := by decide +kernel
  unfold M.openE
  rw [hr]
  split
  · decide
  · split
    · decide
    · show (22 : Nat) ≠ 0
      decide
set_option maxRecDepth 100000 in
theorem pl_open {no : Nat} (hno : no < 6) (c : UInt8) : M.openE (M.sealP (pl no c)) (no : Int) = 0 ∧ M.openP (M.sealP (pl no c)) (no : Int) = pl no c := by
  have hR := pl_read (no := no) (by omega) c
  have e1 : M.openE (M.sealP (pl no c)) (no : Int) = 0 := by
    rw [sealP_some hR, open_sealed hR]
    unfold F.isE
    rw [hR]
    simp
  refine ⟨e1, ?_⟩
  have h0 := M.read_ok hR
  have l2 : ((pl no c).take 252).length = 252 := by rw [List.length_take]; omega
  have l3 : (sealed ((pl no c).take 252)).length = 256 := by rw [len_sealed, l2]
  have t3 : (sealed ((pl no c).take 252)).take 252 = (pl no c).take 252 := by
    unfold sealed
    rw [List.take_append_of_le_length (by omega), List.take_of_length_le (by omega)]
  have r3 : M.readP (sealed ((pl no c).take 252)) = some ⟨no, 1, [[c]]⟩ := M.read_of h0.1 l3 (by rw [t3, h0.2.2])
  rw [sealP_some hR]
  unfold M.openP
  rw [if_neg (by omega), if_neg (by rw [t3]; simp), r3]
  simp
  rfl
set_option maxRecDepth 100000 in
/-- Get of the first pool, behind the second Accept. -/
theorem Pa.get {s : F.Po} {f f1 : Nat → Option UInt8} {all : Bool} {D : dSt} (h : Pa s f all) (hg : F.Good s) (hD : Dk D f1) (hx : ∀ no, f no = none → f1 no = none) {no : Nat} (hno : no < 6) :
    (F.getE s D (no : Int) = 0 ↔ f no ≠ none) ∧ F.getB s D (no : Int) = tx no (f no) ∧ Pa (F.getS s D (no : Int)) f all := by
  have hn := F.six_need h.six hg (no := (no : Int)) (by omega)
  have hin : F.inPool s (no : Int) = true := by unfold F.inPool; rw [h.six.ct]; simp; omega
  cases hf : f no with
  | none =>
    have ha := h.non no hno hf
    have e1 : F.getE s D (no : Int) ≠ 0 := by
      have q : F.getE s D (no : Int) = M.openE (D.H (0 + (no : Int))) (no : Int) := by
        unfold F.getE F.rdE
        simp only [hin, ha, hn.2, Option.isSome_none, Bool.false_eq_true, if_false, if_true]
        rw [if_neg (by rw [hD.on]; decide), h.six.fr, hD.w]
        rfl
      rw [q, Int.zero_add, hD.has no hno, hx no hf]
      exact zeros_no _
    refine ⟨⟨fun c => absurd c e1, fun c => absurd rfl c⟩, by unfold F.getB; rw [if_neg e1]; rfl, by unfold F.getS; rw [if_neg e1]; exact h⟩
  | some c =>
    obtain ⟨b, hb, hall⟩ := h.som no hno c hf
    have e1 : F.getE s D (no : Int) = 0 := by unfold F.getE; rw [hin, hb]; rfl
    have e2 : F.getF s D (no : Int) = ⟨(no : Int), pl no c, [], false, b⟩ := by unfold F.getF; rw [hb]
    refine ⟨⟨fun _ e => (by cases e), fun _ => e1⟩, by unfold F.getB; rw [if_pos e1, e2]; rfl, ?_⟩
    unfold F.getS
    rw [if_pos e1, e2]
    have hat := fun k : Int => F.at_held (s := s) (no := (no : Int)) (k := k) (f := ⟨(no : Int), pl no c, [], false, b⟩) hn.1 rfl
    refine ⟨⟨h.six.fr, h.six.ct, h.six.mo⟩, fun k hk hf' => ?_, fun k hk c' hf' => ?_, fun g hg' => ?_⟩
    · by_cases e : k = no
      · subst e; rw [hf] at hf'; cases hf'
      · rw [hat, if_neg (by omega)]; exact h.non k hk hf'
    · by_cases e : k = no
      · subst e
        rw [hf] at hf'
        cases hf'
        exact ⟨b, by rw [hat, if_pos rfl], hall⟩
      · obtain ⟨b', hb', ha'⟩ := h.som k hk c' hf'
        exact ⟨b', by rw [hat, if_neg (by omega)]; exact hb', ha'⟩
    · rcases List.mem_append.1 hg' with hg' | hg'
      · exact h.fresh g ((F.out_sub s _).mem (F.sansF_mem.1 hg').1)
      · rw [List.mem_singleton.1 hg']
/-- The second pool, with one frame, behind the pages below i. -/
structure Qk (s : F.Po) (i : Nat) : Prop where
  fr : s.fr = 0
  ct : s.ct = 6
  mo : s.mo = 1
  all : ∀ g ∈ s.L, F.clean g = true ∧ g.no < (i : Int)
set_option maxRecDepth 100000 in
theorem Qk.get {s : F.Po} {f : Nat → Option UInt8} {D : dSt} {no : Nat} (h : Qk s no) (hD : Dk D f) (hno : no < 6) :
    (F.getE s D (no : Int) = 0 ↔ f no ≠ none) ∧ F.getB s D (no : Int) = tx no (f no) ∧ Qk (F.getS s D (no : Int)) (no + 1) := by
  have hin : F.inPool s (no : Int) = true := by unfold F.inPool; rw [h.ct]; simp; omega
  have ha : F.at? s.L (no : Int) = none := by
    unfold F.at?
    rw [List.find?_eq_none]
    intro g hg
    have := (h.all g hg).2
    simp
    omega
  have hr : F.room s (no : Int) = true := by
    unfold F.room F.need
    rw [ha, h.mo]
    cases hL : s.L with
    | nil => rfl
    | cons g L =>
      have hc := (h.all g (by rw [hL]; exact List.mem_cons_self)).1
      have : F.old (g :: L) = some g := by unfold F.old; rw [List.find?_cons, hc]
      rw [this]
      simp
  have hup : Qk s (no + 1) := ⟨h.fr, h.ct, h.mo, fun g hg => ⟨(h.all g hg).1, by have := (h.all g hg).2; omega⟩⟩
  have e0 : F.getE s D (no : Int) = M.openE (D.H (no : Int)) (no : Int) := by
    unfold F.getE F.rdE
    simp only [hin, ha, hr, Option.isSome_none, Bool.false_eq_true, if_false, if_true]
    rw [if_neg (by rw [hD.on]; decide), h.fr, hD.w, Int.zero_add]
    rfl
  have eB : F.rdB s D (no : Int) = M.openP (D.H (no : Int)) (no : Int) := by
    unfold F.rdB
    rw [h.fr, hD.w]
    show M.openP (D.H (0 + (no : Int))) (no : Int) = _
    rw [Int.zero_add]
  rw [hD.has no hno] at e0 eB
  cases hf : f no with
  | none =>
    rw [hf] at e0
    have e1 : F.getE s D (no : Int) ≠ 0 := by rw [e0]; exact zeros_no _
    exact ⟨⟨fun c => absurd c e1, fun c => absurd rfl c⟩, by unfold F.getB; rw [if_neg e1]; rfl, by unfold F.getS; rw [if_neg e1]; exact hup⟩
  | some c =>
    rw [hf] at e0 eB
    have e1 : F.getE s D (no : Int) = 0 := by rw [e0]; exact (pl_open hno c).1
    have e2 : F.getF s D (no : Int) = ⟨(no : Int), pl no c, [], false, false⟩ := by unfold F.getF; rw [ha, eB]; show F.Fr.mk _ (M.openP (M.sealP (pl no c)) (no : Int)) _ _ _ = _; rw [(pl_open hno c).2]
    refine ⟨⟨fun _ e => (by cases e), fun _ => e1⟩, by unfold F.getB; rw [if_pos e1, e2]; rfl, ?_⟩
    unfold F.getS
    rw [if_pos e1, e2]
    refine ⟨h.fr, h.ct, h.mo, fun g hg => ?_⟩
    rcases List.mem_append.1 hg with hg | hg
    · exact hup.all g ((F.out_sub s _).mem (F.sansF_mem.1 hg).1)
    · rw [List.mem_singleton.1 hg]
      exact ⟨rfl, by show (no : Int) < _; omega⟩
end Go.Proofs.YtjbdchgadfhffaaDoor
