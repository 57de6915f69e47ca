/- Texts put together: FQM, FQ3, FQ4, FQ5, FQ6, FQ6b, FQ7. -/
import Derived.Test.YtjbdchgadfhffaaGreatDoorQ43
import Derived.Test.YtjbdchgadfhffaaGreatDoorQ44
import Derived.BigQuiet
import Derived.Deep.MidRow
import Derived.Deep.WholeRow
import Derived.Test.YtjbdchgadfhffaaGreatDoorQ41
import Derived.Test.YtjbdchgadfhffaaGreatDoorQ40
/- The reference's steps and the pool's by definition are the same. -/
namespace Go.Proofs.YtjbdchgadfhffaaGreatDoor
open Go.RowKit
namespace F
/-- What was is kept only of a fresh page that was dirty. -/
def Nil (s : Po) : Prop := ∀ f ∈ s.L, (f.fresh && f.dirty) = false → f.was = []
set_option maxRecDepth 100000 in
theorem Nil.held {s : Po} (h : Nil s) {no : Int} {f : Fr} (hf : (f.fresh && f.dirty) = false → f.was = []) : Nil (held s no f) := by
  intro g hg c
  rcases List.mem_append.1 hg with hg | hg
  · exact h g ((out_sub s no).mem ((sansF_sub _ _).mem hg)) c
  · obtain rfl := List.mem_singleton.1 hg
    exact hf c
set_option maxRecDepth 100000 in
theorem Nil.put {s : Po} (h : Nil s) (no : Int) (bs : List UInt8) : Nil (putS s no bs) := by
  unfold putS
  split
  · refine h.held (fun c => ?_)
    show wasB s no = []
    have c' : wasD s no = false := by simpa using c
    unfold wasD at c'
    unfold wasB
    cases ha : at? s.L no with
    | none => rfl
    | some f =>
      rw [ha] at c'
      have c2 : f.dirty = false := c'
      cases hf : f.fresh with
      | true => show (if f.fresh then f.was else if f.dirty then f.now else []) = []; rw [if_pos hf]; exact h f (at_mem ha).1 (by rw [c2, Bool.and_false])
      | false => show (if f.fresh then f.was else if f.dirty then f.now else []) = []; rw [if_neg (by rw [hf]; decide), if_neg (by rw [c2]; decide)]
  · exact h
set_option maxRecDepth 100000 in
theorem Nil.get {s : Po} (h : Nil s) (D : dSt) (no : Int) : Nil (getS s D no) := by
  unfold getS
  split
  · refine h.held (fun c => ?_)
    unfold getF at c ⊢
    cases ha : at? s.L no with
    | none => rfl
    | some f =>
      rw [ha] at c
      exact h f (at_mem ha).1 c
  · exact h
set_option maxRecDepth 100000 in
theorem Nil.acc {s : Po} (h : Nil s) : Nil (accS s) := by
  intro g hg c
  obtain ⟨f, hf, rfl⟩ := List.mem_map.1 hg
  unfold F.acc at c ⊢
  cases hq : f.fresh with
  | true => simp
  | false => simp only [Bool.false_eq_true, if_false]; exact h f hf (by rw [hq]; rfl)
set_option maxRecDepth 100000 in
theorem Nil.drop {s : Po} (h : Nil s) : Nil (dropS s) := by
  intro g hg c
  obtain ⟨f, hf, rfl⟩ := List.mem_map.1 hg
  unfold drp at c ⊢
  cases hq : f.fresh with
  | true => simp
  | false => simp only [Bool.false_eq_true, if_false]; exact h f (List.mem_filter.1 hf).1 (by rw [hq]; rfl)
set_option maxRecDepth 100000 in
theorem Nil.fl {s : Po} (h : Nil s) (D : dSt) : Nil (flS s D) := by
  unfold flS
  split
  · intro g hg c
    obtain ⟨f, hf, rfl⟩ := List.mem_map.1 hg
    unfold cln at c ⊢
    cases hq : f.fresh with
    | true => simp only [if_true]; rw [hq] at c; simp only [if_true] at c; exact h f hf c
    | false => simp only [Bool.false_eq_true, if_false]; exact h f hf (by rw [hq]; rfl)
  · exact h
set_option maxRecDepth 100000 in
theorem Good.drop {s : Po} (h : Good s) : Good (dropS s) := by
  have hm : ∀ g ∈ (dropS s).L, ∃ f ∈ s.L, kept f = true ∧ drp f = g := fun g hg => by
    obtain ⟨f, hf, e⟩ := List.mem_map.1 hg
    exact ⟨f, (List.mem_filter.1 hf).1, (List.mem_filter.1 hf).2, e⟩
  have hsub : ((dropS s).L.map (·.no)).Sublist (s.L.map (·.no)) := by
    show (((s.L.filter kept).map drp).map (·.no)).Sublist _
    rw [List.map_map]
    have e : (s.L.filter kept).map ((·.no) ∘ drp) = (s.L.filter kept).map (·.no) := List.map_congr_left (fun f _ => drp_no f)
    rw [e]
    exact List.filter_sublist.map _
  refine ⟨fun g hg => ?_, fun g hg => ?_, fun g hg h1 _ => ?_, ?_, h.nd.sublist hsub⟩
  · obtain ⟨f, hf, _, rfl⟩ := hm g hg
    rw [drp_no]; exact h.nos f hf
  · obtain ⟨f, hf, hk, rfl⟩ := hm g hg
    rw [drp_no]
    unfold drp
    cases hfr : f.fresh with
    | false => exact h.pgs f hf
    | true => exact h.was f hf hfr (by unfold kept at hk; rw [hfr] at hk; simpa using hk)
  · obtain ⟨f, hf, _, rfl⟩ := hm g hg
    unfold drp at h1
    cases hfr : f.fresh with
    | false => rw [hfr] at h1; simp at h1; rw [hfr] at h1; cases h1
    | true => rw [hfr] at h1; simp at h1
  · have := hsub.length_le
    rw [List.length_map, List.length_map] at this
    have := h.len
    show (((dropS s).L.length : Nat) : Int) ≤ s.mo
    omega
set_option maxRecDepth 100000 in
theorem sans_none {L : List Fr} {no : Int} (h : ∀ f ∈ L, f.no ≠ no) : sansF L no = L := by
  unfold sansF
  rw [List.filter_eq_self]
  intro f hf
  simpa using h f hf
set_option maxRecDepth 100000 in
theorem cut_sans {L : List Fr} (hn : (L.map (·.no)).Nodup) {i : Nat} (hi : i < L.length) : sansF L L[i].no = cutI L (i : Int) := by
  obtain ⟨x, hx⟩ : ∃ x, x = L[i] := ⟨_, rfl⟩
  have e : L = L.take i ++ x :: L.drop (i + 1) := by rw [hx, ← List.drop_eq_getElem_cons hi, List.take_append_drop]
  rw [← hx]
  have hc : cutI L (i : Int) = L.take i ++ L.drop (i + 1) := by unfold cutI; rw [if_pos (by omega), Int.toNat_natCast]
  rw [hc]
  have hn2 : ((L.take i).map (·.no) ++ (x.no :: (L.drop (i + 1)).map (·.no))).Nodup := by
    have q := hn
    rw [e, List.map_append, List.map_cons] at q
    exact q
  obtain ⟨_, h2, h3⟩ := List.nodup_append.1 hn2
  obtain ⟨h4, _⟩ := List.nodup_cons.1 h2
  have e2 : sansF L x.no = sansF (L.take i) x.no ++ sansF (x :: L.drop (i + 1)) x.no := by
    unfold sansF
    rw [← List.filter_append, ← e]
  rw [e2, sans_none (fun f hf c => h3 _ (List.mem_map.2 ⟨f, hf, rfl⟩) _ List.mem_cons_self c)]
  congr 1
  have e3 : sansF (x :: L.drop (i + 1)) x.no = sansF (L.drop (i + 1)) x.no := by unfold sansF; rw [List.filter_cons]; simp
  rw [e3, sans_none (fun f hf c => h4 (List.mem_map.2 ⟨f, hf, c⟩))]
set_option maxRecDepth 100000 in
theorem idx_lt (L : List Fr) (no : Int) : idx L no < (L.length : Int) ∧ -1 ≤ idx L no := by
  rcases idx_is L no with ⟨i, hi, h, _⟩ | ⟨h, _⟩
  · rw [h]; omega
  · rw [h]; omega
set_option maxRecDepth 100000 in
/-- A page that is held is the youngest. -/
theorem held_idx {s : Po} (hg : Good s) {no : Int} {i : Nat} (hi : i < s.L.length) (hn : s.L[i].no = no) (ha : at? s.L no = some s.L[i]) (f : Fr) : held s no f = { s with L := cutI s.L (i : Int) ++ [f] } := by
  have ho : out s no = s.L := by unfold out; rw [(need_at ha).1]; rfl
  unfold held
  rw [ho, ← cut_sans hg.nd hi, hn]
set_option maxRecDepth 100000 in
/-- Which frame is given up for a page that is not held. -/
theorem out_is {s : Po} (hg : Good s) {no : Int} (ha : at? s.L no = none) (hno : ∀ f ∈ s.L, f.no ≠ no) : (outI s = -2 ∧ room s no = false) ∨ (∃ j : Int, outI s = j ∧ j ≠ -2 ∧ j < (s.L.length : Int) ∧ room s no = true ∧ ∀ f, held s no f = { s with L := cutI s.L j ++ [f] }) := by
  by_cases hlt : (s.L.length : Int) < s.mo
  · have hn : need s no = false := by unfold need; rw [ha]; simp; omega
    have ho : out s no = s.L := by unfold out; rw [hn]; rfl
    refine .inr ⟨-1, by unfold outI; rw [if_pos hlt], by decide, by omega, by unfold room; rw [hn]; rfl, fun f => ?_⟩
    unfold held
    rw [ho, sans_none hno]
    unfold cutI
    rw [if_neg (by decide)]
  · have hn : need s no = true := by unfold need; rw [ha]; simp; omega
    cases hf : s.L.findIdx? clean with
    | none =>
      have hold : old s.L = none := by
        unfold old
        rw [List.find?_eq_none]
        intro f hf'
        rw [List.findIdx?_eq_none_iff.1 hf f hf']
        decide
      refine .inl ⟨by unfold outI; rw [if_neg hlt, hf], ?_⟩
      unfold room
      rw [hn, hold]
      rfl
    | some i =>
      obtain ⟨hi, h1, h2⟩ := List.findIdx?_eq_some_iff_getElem.1 hf
      have hold : old s.L = some s.L[i] := by
        unfold old
        rw [List.find?_eq_some_iff_getElem]
        exact ⟨h1, i, hi, rfl, fun j hj => by simpa using h2 j hj⟩
      refine .inr ⟨(i : Int), by unfold outI; rw [if_neg hlt, hf], by omega, by omega, by unfold room; rw [hn, hold]; rfl, fun f => ?_⟩
      have ho : out s no = cutI s.L (i : Int) := by unfold out; rw [hn, hold]; exact cut_sans hg.nd hi
      unfold held
      rw [ho, sans_none (fun g hg' => ?_)]
      have : g ∈ s.L := by
        unfold cutI at hg'
        rw [if_pos (by omega)] at hg'
        rcases List.mem_append.1 hg' with c | c
        · exact List.mem_of_mem_take c
        · exact List.mem_of_mem_drop c
      exact hno g this
set_option maxRecDepth 100000 in
theorem cut_len (L : List Fr) (i : Int) : (cutI L i).length ≤ L.length := by
  unfold cutI
  split
  · rw [List.length_append, List.length_take, List.length_drop]; omega
  · exact Nat.le_refl _
/-- The numbers of pages, as the reference tells them. -/
def isAt (s : Po) (m : Fr → Bool) (z : Int) : Bool := match at? s.L z with
  | some f => m f
  | none => false
def numsTo (s : Po) (m : Fr → Bool) (n : Nat) : List Int := ((List.range n).map (fun k : Nat => (k : Int))).filter (isAt s m)
set_option maxRecDepth 100000 in
theorem nums_next (s : Po) (m : Fr → Bool) (n : Nat) : numsTo s m (n + 1) = if isAt s m (n : Int) = true then numsTo s m n ++ [(n : Int)] else numsTo s m n := by
  unfold numsTo
  rw [List.range_succ, List.map_append, List.filter_append, List.map_cons, List.map_nil, List.filter_cons, List.filter_nil]
  split
  · rfl
  · rw [List.append_nil]
set_option maxRecDepth 100000 in
theorem nums_which {s : Po} (hg : Good s) (m : Fr → Bool) {n : Nat} (hn : (n : Int) = s.ct) : numsTo s m n = which s m := by
  symm
  unfold which
  refine rise_eq ?_ ?_
  · refine (List.perm_ext_iff_of_nodup ?_ ?_).2 (fun z => ?_)
    · unfold numsTo
      refine List.Nodup.sublist List.filter_sublist ?_
      rw [List.nodup_iff_pairwise_ne, List.pairwise_map]
      exact (List.nodup_iff_pairwise_ne.1 List.nodup_range).imp (fun h => by omega)
    · exact hg.nd.sublist (List.filter_sublist.map _)
    · unfold numsTo
      rw [List.mem_filter, List.mem_map, List.mem_map]
      constructor
      · rintro ⟨_, h⟩
        unfold isAt at h
        cases ha : at? s.L z with
        | none => rw [ha] at h; cases h
        | some f =>
          rw [ha] at h
          exact ⟨f, List.mem_filter.2 ⟨(at_mem ha).1, h⟩, (at_mem ha).2⟩
      · rintro ⟨f, hf, rfl⟩
        obtain ⟨hf, hm⟩ := List.mem_filter.1 hf
        have hb := hg.nos f hf
        refine ⟨⟨f.no.toNat, List.mem_range.2 (by omega), by omega⟩, ?_⟩
        unfold isAt
        cases ha : at? s.L f.no with
        | none => exact absurd (List.find?_eq_none.1 ha f hf) (by simp)
        | some g =>
          rw [nodup_same hg.nd (at_mem ha).1 hf (at_mem ha).2]
          exact hm
  · unfold numsTo
    refine List.Pairwise.filter _ ?_
    rw [List.pairwise_map]
    exact (List.pairwise_lt_range (n := n)).imp (fun h => by omega)
set_option maxRecDepth 100000 in
theorem nums_len (s : Po) (m : Fr → Bool) (n : Nat) : (numsTo s m n).length ≤ n := by
  unfold numsTo
  refine Nat.le_trans (List.length_filter_le _ _) ?_
  rw [List.length_map, List.length_range]
  exact Nat.le_refl _
end F
end Go.Proofs.YtjbdchgadfhffaaGreatDoor

/- The reference's call Where. -/
namespace Go.Proofs.YtjbdchgadfhffaaGreatDoor
open Go.RowKit

/-- On the way through the pages. -/
structure WhAt (w wr : World) (s : F.Po) (m : F.Fr → Bool) (lv : Value) (k : Nat) : Prop where
  row : wr.ownsRow w.heap.size 3 1 lv (F.numsTo s m k).length (I (F.numsTo s m k))
  adds : Adds w wr
set_option maxRecDepth 100000 in
theorem WhAt.skip {w wr : World} {s : F.Po} {m : F.Fr → Bool} {lv : Value} {k : Nat} (h : WhAt w wr s m lv k) (hm : F.isAt s m (k : Int) = false) : WhAt w wr s m lv (k + 1) := by
  have e : F.numsTo s m (k + 1) = F.numsTo s m k := by rw [F.nums_next, if_neg (by rw [hm]; decide)]
  exact ⟨by rw [e]; exact h.row, h.adds⟩
set_option maxRecDepth 100000 in
theorem WhAt.take {w wr w2 : World} {s : F.Po} {m : F.Fr → Bool} {lv v' : Value} {k : Nat} {o : Obj} (h : WhAt w wr s m lv k) (hm : F.isAt s m (k : Int) = true) (hr : w2.ownsRow w.heap.size 3 1 v' ((F.numsTo s m k).length + 1) (I (F.numsTo s m k) ++ [.int .i64 (k : Int)])) (hg : (wr.alloc o).grownBy w2 lv.ownBlock) : WhAt w w2 s m v' (k + 1) := by
  have e : F.numsTo s m (k + 1) = F.numsTo s m k ++ [(k : Int)] := by rw [F.nums_next, if_pos hm]
  have e2 : I (F.numsTo s m k ++ [(k : Int)]) = I (F.numsTo s m k) ++ [.int .i64 (k : Int)] := by simp [I]
  refine ⟨by rw [e, e2, List.length_append]; exact hr, (h.adds.alloc o).then (grown_touch hg) (fun j hj c => ?_)⟩
  have := (row_low h.row c).1
  omega
set_option maxRecDepth 100000 in
theorem at_isAt {s : F.Po} {m : F.Fr → Bool} {z : Int} {f : F.Fr} (h : F.at? s.L z = some f) : F.isAt s m z = m f := by unfold F.isAt; rw [h]
set_option maxRecDepth 100000 in
theorem at_isNot {s : F.Po} {m : F.Fr → Bool} {z : Int} (h : F.at? s.L z = none) : F.isAt s m z = false := by unfold F.isAt; rw [h]
set_option maxRecDepth 100000 in
set_option maxHeartbeats 4000000 in
theorem qwhere_any {w : World} {O : Nat → Prop} {q r : Nat} {s : F.Po} {lv : Value} (h : QAt w O q r s lv) (hl : s.L.length ≤ 10000) (n : Nat) (hn : s.ct = (n : Int)) (hn2 : n ≤ 10000) (kd : Int) (m : F.Fr → Bool) (hm : (kd = 0 ∧ m = F.isHeld) ∨ (kd = 1 ∧ m = F.isFresh) ∨ (kd = 2 ∧ m = F.isDirty)) :
    Calls Tryz.prog 36 #[Ptr q, .int .i64 kd] w (PNums w (F.numsTo s m n)) := by
  have HQ := hid h
  have HL := hid hl
  have HC2 := hid (fun w' (hA : Adds w w') => show w'.cell? ⟨q, 2, none⟩ = some (.int .i64 (n : Int)) by have c := cellOf (h.adds hA).box 2; rw [hn] at c; exact c)
  have HF := hid (fun w' (hA : Adds w w') (k : Nat) (z : Int) (hz : z = F.idx s.L (k : Int)) => show Calls Tryz.prog 56 #[.pointer (some ⟨q, 0, none⟩), .int .i64 (k : Int)] w' (Tells (.int .i64 z) w') by rw [hz]; exact qfind_any (h.adds hA) (k : Int) hl)
  unfold Ptr
  clear h hl hn
  rcases hm with ⟨rfl, rfl⟩ | ⟨rfl, rfl⟩ | ⟨rfl, rfl⟩
  · go_enter Tryz.func36, Tryz.ntmps36
    go_wp2_with fail
    go_loopw [5, 6] (fun lv iv wr => ∃ k : Nat, iv = .int .i64 (k : Int) ∧ k ≤ n ∧ Hid (WhAt w wr s F.isHeld lv k)) (fun _ iv _ => n - (intOf iv).toNat)
    case atStart => exact ⟨0, rfl, Nat.zero_le _, World.ownsRow_nil _ _ _ _, Touch.refl _ _⟩
    case round =>
      obtain ⟨k, rfl, hk, HI⟩ := hrel
      have c2 := HC2.out wr HI.out.adds
      by_cases hlt : k < n
      · have hltz : (k : Int) < (n : Int) := by omega
        obtain ⟨z, hz⟩ : ∃ z, z = F.idx s.L (k : Int) := ⟨_, rfl⟩
        have HFk := hid (HF.out wr HI.out.adds k z hz)
        rcases F.idx_is s.L (k : Int) with ⟨i, hi, e1, _, e2⟩ | ⟨e1, e2, _⟩
        · rw [e1] at hz
          subst hz
          have hi0 : decide ((0 : Int) ≤ (i : Int)) = true := by simp
          obtain ⟨ao, cap, elv, hcap, hat⟩ := (HQ.out.adds HI.out.adds).at'
          obtain ⟨g, ea, _, hc, _⟩ := hat (by omega)
          subst ea
          obtain ⟨f, hf⟩ : ∃ f, f = s.L[i] := ⟨_, rfl⟩
          obtain ⟨sl, hsl⟩ : ∃ sl, sl = s.L.length := ⟨_, rfl⟩
          have d4 : wr.cell? ⟨q, 4, none⟩ = some (.slice (some ⟨g, 0, none⟩) sl cap) := by have c := cellOf (HQ.out.adds HI.out.adds).box 4; rw [elv] at c; rw [hsl]; exact c
          have e3 : wr.cell? ⟨g, i * 5 + 3, none⟩ = some (.bool f.fresh) := by rw [hf]; exact hc i hi 3 (by omega)
          have e4 : wr.cell? ⟨g, i * 5 + 4, none⟩ = some (.bool f.dirty) := by rw [hf]; exact hc i hi 4 (by omega)
          have HM := hid (show F.isAt s F.isHeld (k : Int) = F.isHeld f by rw [hf]; exact at_isAt e2)
          have hil : i < sl := by rw [hsl]; exact hi
          have hll : sl ≤ 10000 := by rw [hsl]; exact HL.out
          have HM2 : Hid (F.isHeld f = true) := rfl
          clear hf hsl hc hat e1 e2 elv hcap
          generalize f.fresh = fr at *
          generalize f.dirty = di at *
          cases fr <;> cases di
          all_goals
            go_wp2_with (first
              | (go_at_call 56; refine HFk.out.mono ?_; rintro e _ ⟨rfl, hw⟩; rw [hw]; clear hw)
              | (at_builtin; refine append_i1 rfl _ _ rfl w.heap.size _ _ _ rfl (row_keep HI.out.row ((Touch.refl (fun _ => False) wr).alloc _) (fun _ _ => id)) wr.heap.size (k : Int) rfl (cellOf (heap_alloc_new wr _) 0) (by have := F.nums_len s F.isHeld k; omega) (by have := HI.out.adds.size; simp; omega) ?_; intro v' w3 hr3 hg3; have H3 := hid (And.intro hr3 hg3); clear hr3 hg3))
            go_roundw
            case rel =>
              first
              | exact ⟨k + 1, by go_num, by omega, HI.out.skip (by rw [HM.out, HM2.out])⟩
              | exact ⟨k + 1, by go_num, by omega, HI.out.take (by rw [HM.out, HM2.out]) H3.out.1 H3.out.2⟩
            case measure => simp [intOf]; omega
        · rw [e1] at hz
          subst hz
          have HM := hid (at_isNot (m := F.isHeld) e2)
          clear e1 e2
          go_wp2_with (first
            | (go_at_call 56; refine HFk.out.mono ?_; rintro e _ ⟨rfl, hw⟩; rw [hw]; clear hw))
          go_roundw
          case rel => exact ⟨k + 1, by go_num, by omega, HI.out.skip HM.out⟩
          case measure => simp [intOf]; omega
      · have hltz : ¬ (k : Int) < (n : Int) := by omega
        obtain rfl : k = n := by omega
        go_wp2_with fail
        go_ret
        exact ⟨_, rfl, HI.out.row, HI.out.adds⟩
  · go_enter Tryz.func36, Tryz.ntmps36
    go_wp2_with fail
    go_loopw [5, 6] (fun lv iv wr => ∃ k : Nat, iv = .int .i64 (k : Int) ∧ k ≤ n ∧ Hid (WhAt w wr s F.isFresh lv k)) (fun _ iv _ => n - (intOf iv).toNat)
    case atStart => exact ⟨0, rfl, Nat.zero_le _, World.ownsRow_nil _ _ _ _, Touch.refl _ _⟩
    case round =>
      obtain ⟨k, rfl, hk, HI⟩ := hrel
      have c2 := HC2.out wr HI.out.adds
      by_cases hlt : k < n
      · have hltz : (k : Int) < (n : Int) := by omega
        obtain ⟨z, hz⟩ : ∃ z, z = F.idx s.L (k : Int) := ⟨_, rfl⟩
        have HFk := hid (HF.out wr HI.out.adds k z hz)
        rcases F.idx_is s.L (k : Int) with ⟨i, hi, e1, _, e2⟩ | ⟨e1, e2, _⟩
        · rw [e1] at hz
          subst hz
          have hi0 : decide ((0 : Int) ≤ (i : Int)) = true := by simp
          obtain ⟨ao, cap, elv, hcap, hat⟩ := (HQ.out.adds HI.out.adds).at'
          obtain ⟨g, ea, _, hc, _⟩ := hat (by omega)
          subst ea
          obtain ⟨f, hf⟩ : ∃ f, f = s.L[i] := ⟨_, rfl⟩
          obtain ⟨sl, hsl⟩ : ∃ sl, sl = s.L.length := ⟨_, rfl⟩
          have d4 : wr.cell? ⟨q, 4, none⟩ = some (.slice (some ⟨g, 0, none⟩) sl cap) := by have c := cellOf (HQ.out.adds HI.out.adds).box 4; rw [elv] at c; rw [hsl]; exact c
          have e3 : wr.cell? ⟨g, i * 5 + 3, none⟩ = some (.bool f.fresh) := by rw [hf]; exact hc i hi 3 (by omega)
          have e4 : wr.cell? ⟨g, i * 5 + 4, none⟩ = some (.bool f.dirty) := by rw [hf]; exact hc i hi 4 (by omega)
          have HM := hid (show F.isAt s F.isFresh (k : Int) = F.isFresh f by rw [hf]; exact at_isAt e2)
          have hil : i < sl := by rw [hsl]; exact hi
          have hll : sl ≤ 10000 := by rw [hsl]; exact HL.out
          have HM2 : Hid (F.isFresh f = f.fresh) := rfl
          clear hf hsl hc hat e1 e2 elv hcap
          generalize f.fresh = fr at *
          generalize f.dirty = di at *
          cases fr <;> cases di
          all_goals
            go_wp2_with (first
              | (go_at_call 56; refine HFk.out.mono ?_; rintro e _ ⟨rfl, hw⟩; rw [hw]; clear hw)
              | (at_builtin; refine append_i1 rfl _ _ rfl w.heap.size _ _ _ rfl (row_keep HI.out.row ((Touch.refl (fun _ => False) wr).alloc _) (fun _ _ => id)) wr.heap.size (k : Int) rfl (cellOf (heap_alloc_new wr _) 0) (by have := F.nums_len s F.isFresh k; omega) (by have := HI.out.adds.size; simp; omega) ?_; intro v' w3 hr3 hg3; have H3 := hid (And.intro hr3 hg3); clear hr3 hg3))
            go_roundw
            case rel =>
              first
              | exact ⟨k + 1, by go_num, by omega, HI.out.skip (by rw [HM.out, HM2.out])⟩
              | exact ⟨k + 1, by go_num, by omega, HI.out.take (by rw [HM.out, HM2.out]) H3.out.1 H3.out.2⟩
            case measure => simp [intOf]; omega
        · rw [e1] at hz
          subst hz
          have HM := hid (at_isNot (m := F.isFresh) e2)
          clear e1 e2
          go_wp2_with (first
            | (go_at_call 56; refine HFk.out.mono ?_; rintro e _ ⟨rfl, hw⟩; rw [hw]; clear hw))
          go_roundw
          case rel => exact ⟨k + 1, by go_num, by omega, HI.out.skip HM.out⟩
          case measure => simp [intOf]; omega
      · have hltz : ¬ (k : Int) < (n : Int) := by omega
        obtain rfl : k = n := by omega
        go_wp2_with fail
        go_ret
        exact ⟨_, rfl, HI.out.row, HI.out.adds⟩
  · go_enter Tryz.func36, Tryz.ntmps36
    go_wp2_with fail
    go_loopw [5, 6] (fun lv iv wr => ∃ k : Nat, iv = .int .i64 (k : Int) ∧ k ≤ n ∧ Hid (WhAt w wr s F.isDirty lv k)) (fun _ iv _ => n - (intOf iv).toNat)
    case atStart => exact ⟨0, rfl, Nat.zero_le _, World.ownsRow_nil _ _ _ _, Touch.refl _ _⟩
    case round =>
      obtain ⟨k, rfl, hk, HI⟩ := hrel
      have c2 := HC2.out wr HI.out.adds
      by_cases hlt : k < n
      · have hltz : (k : Int) < (n : Int) := by omega
        obtain ⟨z, hz⟩ : ∃ z, z = F.idx s.L (k : Int) := ⟨_, rfl⟩
        have HFk := hid (HF.out wr HI.out.adds k z hz)
        rcases F.idx_is s.L (k : Int) with ⟨i, hi, e1, _, e2⟩ | ⟨e1, e2, _⟩
        · rw [e1] at hz
          subst hz
          have hi0 : decide ((0 : Int) ≤ (i : Int)) = true := by simp
          obtain ⟨ao, cap, elv, hcap, hat⟩ := (HQ.out.adds HI.out.adds).at'
          obtain ⟨g, ea, _, hc, _⟩ := hat (by omega)
          subst ea
          obtain ⟨f, hf⟩ : ∃ f, f = s.L[i] := ⟨_, rfl⟩
          obtain ⟨sl, hsl⟩ : ∃ sl, sl = s.L.length := ⟨_, rfl⟩
          have d4 : wr.cell? ⟨q, 4, none⟩ = some (.slice (some ⟨g, 0, none⟩) sl cap) := by have c := cellOf (HQ.out.adds HI.out.adds).box 4; rw [elv] at c; rw [hsl]; exact c
          have e3 : wr.cell? ⟨g, i * 5 + 3, none⟩ = some (.bool f.fresh) := by rw [hf]; exact hc i hi 3 (by omega)
          have e4 : wr.cell? ⟨g, i * 5 + 4, none⟩ = some (.bool f.dirty) := by rw [hf]; exact hc i hi 4 (by omega)
          have HM := hid (show F.isAt s F.isDirty (k : Int) = F.isDirty f by rw [hf]; exact at_isAt e2)
          have hil : i < sl := by rw [hsl]; exact hi
          have hll : sl ≤ 10000 := by rw [hsl]; exact HL.out
          have HM2 : Hid (F.isDirty f = f.dirty) := rfl
          clear hf hsl hc hat e1 e2 elv hcap
          generalize f.fresh = fr at *
          generalize f.dirty = di at *
          cases fr <;> cases di
          all_goals
            go_wp2_with (first
              | (go_at_call 56; refine HFk.out.mono ?_; rintro e _ ⟨rfl, hw⟩; rw [hw]; clear hw)
              | (at_builtin; refine append_i1 rfl _ _ rfl w.heap.size _ _ _ rfl (row_keep HI.out.row ((Touch.refl (fun _ => False) wr).alloc _) (fun _ _ => id)) wr.heap.size (k : Int) rfl (cellOf (heap_alloc_new wr _) 0) (by have := F.nums_len s F.isDirty k; omega) (by have := HI.out.adds.size; simp; omega) ?_; intro v' w3 hr3 hg3; have H3 := hid (And.intro hr3 hg3); clear hr3 hg3))
            go_roundw
            case rel =>
              first
              | exact ⟨k + 1, by go_num, by omega, HI.out.skip (by rw [HM.out, HM2.out])⟩
              | exact ⟨k + 1, by go_num, by omega, HI.out.take (by rw [HM.out, HM2.out]) H3.out.1 H3.out.2⟩
            case measure => simp [intOf]; omega
        · rw [e1] at hz
          subst hz
          have HM := hid (at_isNot (m := F.isDirty) e2)
          clear e1 e2
          go_wp2_with (first
            | (go_at_call 56; refine HFk.out.mono ?_; rintro e _ ⟨rfl, hw⟩; rw [hw]; clear hw))
          go_roundw
          case rel => exact ⟨k + 1, by go_num, by omega, HI.out.skip HM.out⟩
          case measure => simp [intOf]; omega
      · have hltz : ¬ (k : Int) < (n : Int) := by omega
        obtain rfl : k = n := by omega
        go_wp2_with fail
        go_ret
        exact ⟨_, rfl, HI.out.row, HI.out.adds⟩
end Go.Proofs.YtjbdchgadfhffaaGreatDoor

/- The reference's call Accept. -/
namespace Go.Proofs.YtjbdchgadfhffaaGreatDoor
open Go.RowKit

theorem fcs_setF : ∀ (L : List F.Fr) (k : Nat) (hk : k < L.length) (j : Nat) (v : Value) (f : F.Fr), j < 5 → (fc L[k]).set j v = fc f → (fcs L).set (k * 5 + j) v = fcs (L.set k f)
  | [], k, hk, _, _, _, _, _ => absurd hk (by simp)
  | x :: L, 0, _, j, v, f, hj, hf => by
    simp only [fcs, List.flatMap_cons, Nat.zero_mul, Nat.zero_add, List.set_cons_zero]
    rw [List.set_append_left _ _ (by simp [fc]; exact hj)]
    have hf' : (fc x).set j v = fc f := hf
    rw [hf']
  | x :: L, k + 1, hk, j, v, f, hj, hf => by
    have ih := fcs_setF L k (by simpa using hk) j v f hj hf
    simp only [fcs, List.flatMap_cons, List.set_cons_succ] at ih ⊢
    rw [List.set_append_right _ _ (by simp [fc]; omega), show (fc x).length = 5 from rfl, show (k + 1) * 5 + j - 5 = k * 5 + j by omega, ih]
set_option maxRecDepth 100000 in
/-- A frame's cell is stored to. -/
theorem QAt.store {w : World} {O : Nat → Prop} {q r : Nat} {s : F.Po} {lv : Value} {g : Nat} (h : QAt w O q r s lv) (hg : lv.ownBlock = some g) {k : Nat} (hk : k < s.L.length) {j : Nat} (hj : j < 5) {v : Value} {f : F.Fr} (hf : (fc s.L[k]).set j v = fc f) :
    QAt (w.setCell ⟨g, k * 5 + j, none⟩ v) O q r { s with L := s.L.set k f } lv ∧ Touch (fun b => b = g) w (w.setCell ⟨g, k * 5 + j, none⟩ v) := by
  have hT : Touch (fun b => b = g) w (w.setCell ⟨g, k * 5 + j, none⟩ v) := Touch.setCell (T := fun b => b = g) (Touch.refl _ w) (p := ⟨g, k * 5 + j, none⟩) (fun _ => rfl) _
  obtain ⟨cap, e⟩ : ∃ cap, lv = .slice (some ⟨g, 0, none⟩) s.L.length cap := by
    rcases h.row.2 with ⟨e, _⟩ | ⟨g', cap, _, e, _⟩
    · rw [e] at hg; cases hg
    · rw [e] at hg
      obtain rfl : g' = g := by simpa [Value.ownBlock] using hg
      exact ⟨cap, e⟩
  refine ⟨⟨?_, ?_, h.oq, h.ol⟩, hT⟩
  · rw [hT.block q (Array.getElem?_eq_some_iff.1 h.box).1 (fun e => h.ne hg e.symm)]; exact h.box
  · have hr := h.row
    rw [e] at hr
    have q1 := (hr.stored (k * 5 + j) v).1
    rw [fcs_setF s.L k hk j v f hj hf] at q1
    show World.ownsRow _ 0 107 5 lv (s.L.set k f).length (fcs (s.L.set k f))
    rw [List.length_set, e]
    exact q1
set_option maxRecDepth 100000 in
theorem QAt.cellK {w : World} {O : Nat → Prop} {q r : Nat} {s : F.Po} {lv : Value} {g : Nat} (h : QAt w O q r s lv) (hg : lv.ownBlock = some g) {k : Nat} (hk : k < s.L.length) (j : Nat) (hj : j < 5) : w.cell? ⟨g, k * 5 + j, none⟩ = (fc s.L[k])[j]? ∧ w.frozen? ⟨g, k * 5 + j, none⟩ = false := by
  obtain ⟨ao, cap, e, _, hat⟩ := h.at'
  obtain ⟨g', ea, hob, hc, hfz⟩ := hat (by omega)
  rw [hg] at hob
  obtain rfl : g = g' := by simpa using hob
  exact ⟨hc k hk j hj, hfz _⟩
namespace F
/-- The first frames are changed. -/
def mapT (g : Fr → Fr) (L : List Fr) (i : Nat) : List Fr := (L.take i).map g ++ L.drop i
set_option maxRecDepth 100000 in
theorem mapT_len (g : Fr → Fr) (L : List Fr) (i : Nat) : (mapT g L i).length = L.length := by
  unfold mapT
  rw [List.length_append, List.length_map, List.length_take, List.length_drop]; omega
set_option maxRecDepth 100000 in
theorem mapT_zero (g : Fr → Fr) (L : List Fr) : mapT g L 0 = L := by simp [mapT]
set_option maxRecDepth 100000 in
theorem mapT_all (g : Fr → Fr) (L : List Fr) : mapT g L L.length = L.map g := by simp [mapT]
set_option maxRecDepth 100000 in
theorem mapT_at {g : Fr → Fr} {L : List Fr} {i : Nat} (hi : i < L.length) : (mapT g L i)[i]'(by rw [mapT_len]; exact hi) = L[i] := by
  have h : (mapT g L i)[i]? = some L[i] := by
    unfold mapT
    rw [List.getElem?_append_right (by rw [List.length_map, List.length_take]; omega), List.length_map, List.length_take, show i - min i L.length = 0 by omega, List.getElem?_drop, Nat.add_zero, List.getElem?_eq_getElem hi]
  exact (List.getElem?_eq_some_iff.1 h).2
set_option maxRecDepth 100000 in
theorem mapT_next {g : Fr → Fr} {L : List Fr} {i : Nat} (hi : i < L.length) : mapT g L (i + 1) = (mapT g L i).set i (g L[i]) := by
  unfold mapT
  rw [List.set_append_right _ _ (by rw [List.length_map, List.length_take]; omega), List.length_map, List.length_take, show i - min i L.length = 0 by omega]
  have e1 : L.take (i + 1) = L.take i ++ [L[i]] := by simp
  have e2 : L.drop i = L[i] :: L.drop (i + 1) := List.drop_eq_getElem_cons hi
  rw [e1, e2, List.map_append, List.set_cons_zero, List.append_assoc]
  rfl
set_option maxRecDepth 100000 in
theorem mapT_same {g : Fr → Fr} {L : List Fr} {i : Nat} (hi : i < L.length) (h : g L[i] = L[i]) : mapT g L (i + 1) = mapT g L i := by
  rw [mapT_next hi, h]
  have := mapT_at (g := g) hi
  conv => lhs; rw [← this]
  exact List.set_getElem_self _
/-- How many of the first frames are fresh. -/
def freshT (L : List Fr) (i : Nat) : Nat := ((L.take i).filter isFresh).length
set_option maxRecDepth 100000 in
theorem freshT_next {L : List Fr} {i : Nat} (hi : i < L.length) : freshT L (i + 1) = if L[i].fresh then freshT L i + 1 else freshT L i := by
  unfold freshT
  have e1 : L.take (i + 1) = L.take i ++ [L[i]] := by simp
  rw [e1, List.filter_append, List.length_append, List.filter_cons]
  cases h : L[i].fresh <;> simp [isFresh, h]
set_option maxRecDepth 100000 in
theorem freshT_all (s : Po) : freshT s.L s.L.length = (which s isFresh).length := by
  unfold freshT which
  rw [List.take_length, length_rise, List.length_map]
set_option maxRecDepth 100000 in
theorem freshT_le (L : List Fr) (i : Nat) : freshT L i ≤ i := by
  unfold freshT
  refine Nat.le_trans (List.length_filter_le _ _) ?_
  rw [List.length_take]; omega
end F
/-- On the way through the frames. -/
structure AcAt (w wr : World) (O : Nat → Prop) (q r : Nat) (s : F.Po) (lv : Value) (g : F.Fr → F.Fr) (i : Nat) : Prop where
  q : QAt wr O q r { s with L := F.mapT g s.L i } lv
  touch : Touch O w wr
theorem AcAt.same {w wr : World} {O : Nat → Prop} {q r : Nat} {s : F.Po} {lv : Value} {g : F.Fr → F.Fr} {i : Nat} (h : AcAt w wr O q r s lv g i) (hi : i < s.L.length) (hg : g s.L[i] = s.L[i]) : AcAt w wr O q r s lv g (i + 1) := ⟨by rw [F.mapT_same hi hg]; exact h.q, h.touch⟩
set_option maxRecDepth 100000 in
set_option maxHeartbeats 4000000 in
theorem qaccept_any {w : World} {O : Nat → Prop} {q r : Nat} {s : F.Po} (h : IsQ w O q r s) (hl : s.L.length ≤ 10000) : Calls Tryz.prog 25 #[Ptr q] w (PQ11 w O q r (F.accS s) (.int .i64 ((F.which s F.isFresh).length : Int))) := by
  obtain ⟨lv, h⟩ := h
  obtain ⟨N, hN⟩ : ∃ N, N = (F.which s F.isFresh).length := ⟨_, rfl⟩
  have HN := hid (show F.freshT s.L s.L.length = N by rw [hN]; exact F.freshT_all s)
  rw [← hN]
  have HA : Hid (AcAt w w O q r s lv F.acc 0) := ⟨by rw [F.mapT_zero]; exact h, Touch.refl _ _⟩
  obtain ⟨ao, cap, elv, hcap, _⟩ := h.at'
  have HEL := hid elv
  obtain ⟨n, hn⟩ : ∃ n, n = s.L.length := ⟨_, rfl⟩
  have HLn := hid hn
  rw [← hn] at hl hcap
  unfold Ptr
  clear h hN elv hn
  go_enter Tryz.func25, Tryz.ntmps25
  go_wp2_with fail
  go_loopw [3, 4] (fun nv iv wr => ∃ i m : Nat, iv = .int .i64 (i : Int) ∧ nv = .int .i64 (m : Int) ∧ i ≤ n ∧ m ≤ i ∧ Hid (m = F.freshT s.L i) ∧ Hid (AcAt w wr O q r s lv F.acc i)) (fun _ iv _ => n - (intOf iv).toNat)
  case atStart => exact ⟨0, 0, rfl, rfl, Nat.zero_le _, Nat.le_refl _, hid (by simp [F.freshT]), HA.out⟩
  case round =>
    obtain ⟨i, m, rfl, rfl, hi, hmi, HM, HI⟩ := hrel
    have d4 : wr.cell? ⟨q, 4, none⟩ = some (.slice ao n cap) := by have c := cellOf HI.out.q.box 4; rw [HEL.out] at c; rw [HLn.out]; exact c
    by_cases hlt : i < n
    · have hltz : (i : Int) < (n : Int) := by omega
      have hi' : i < s.L.length := by rw [← HLn.out]; exact hlt
      have hi2 : i < (F.mapT F.acc s.L i).length := by rw [F.mapT_len]; exact hi'
      obtain ⟨ao', cap', e', _, hat⟩ := HI.out.q.at'
      obtain ⟨g, ea, hob, hc, hfz⟩ := hat (by show 0 < (F.mapT F.acc s.L i).length; omega)
      have eao : ao = some ⟨g, 0, none⟩ := by
        have e2 := HEL.out
        rw [e', ea] at e2
        simp at e2
        exact e2.1.symm
      subst eao
      have hf0 : (F.mapT F.acc s.L i)[i]'hi2 = s.L[i] := F.mapT_at hi'
      obtain ⟨f, hf⟩ : ∃ f, f = s.L[i] := ⟨_, rfl⟩
      have e2 : wr.cell? ⟨g, i * 5 + 2, none⟩ = some (Str f.was) := by have c := hc i hi2 2 (by omega); rw [show ({ s with L := F.mapT F.acc s.L i } : F.Po).L[i]'hi2 = f by rw [hf]; exact hf0] at c; exact c
      have e3 : wr.cell? ⟨g, i * 5 + 3, none⟩ = some (.bool f.fresh) := by have c := hc i hi2 3 (by omega); rw [show ({ s with L := F.mapT F.acc s.L i } : F.Po).L[i]'hi2 = f by rw [hf]; exact hf0] at c; exact c
      have e4 : wr.cell? ⟨g, i * 5 + 4, none⟩ = some (.bool f.dirty) := by have c := hc i hi2 4 (by omega); rw [show ({ s with L := F.mapT F.acc s.L i } : F.Po).L[i]'hi2 = f by rw [hf]; exact hf0] at c; exact c
      have f2 := hfz (i * 5 + 2)
      have f3 := hfz (i * 5 + 3)
      have f4 := hfz (i * 5 + 4)
      have HF := hid hf
      have HF0 := hid (show (F.mapT F.acc s.L i)[i]'hi2 = f by rw [hf]; exact hf0)
      have HOb := hid hob
      clear hc hat hfz hf hf0 e' ea hob
      cases hfr : f.fresh with
      | false =>
        rw [hfr] at e3
        have HX := hid (show F.acc s.L[i] = s.L[i] by rw [← HF.out]; unfold F.acc; rw [hfr]; rfl)
        have HX2 := hid (show F.freshT s.L (i + 1) = F.freshT s.L i by rw [F.freshT_next hi', ← HF.out, hfr]; rfl)
        go_wp2_with fail
        go_roundw
        case rel => exact ⟨i + 1, m, by go_num, rfl, by omega, by omega, hid (by rw [HX2.out]; exact HM.out), HI.out.same hi' HX.out⟩
        case measure => simp [intOf]; omega
      | true =>
        rw [hfr] at e3
        have HX2 := hid (show F.freshT s.L (i + 1) = F.freshT s.L i + 1 by rw [F.freshT_next hi', ← HF.out, hfr]; rfl)
        have HX := hid (show F.acc f = { f with was := [], fresh := false, dirty := true } by unfold F.acc; rw [hfr]; rfl)
        have hO : ∀ b, b = g → O b := fun b e => by rw [e]; exact HI.out.q.ol g HOb.out
        have HO := hid hO
        have HQa := hid (HI.out.q.store HOb.out hi2 (j := 3) (by omega) (v := .bool false) (f := { f with fresh := false }) (by show (fc ((F.mapT F.acc s.L i)[i]'hi2)).set 3 _ = _; rw [HF0.out]; rfl))
        have l1 : i < ((F.mapT F.acc s.L i).set i { f with fresh := false }).length := by rw [List.length_set]; exact hi2
        have l2 : i < (((F.mapT F.acc s.L i).set i { f with fresh := false }).set i { f with fresh := false, dirty := true }).length := by rw [List.length_set]; exact l1
        have HL1 := hid l1
        have HL2 := hid l2
        clear hO l1 l2 e2 e4 f2 f4
        go_upto_region 8 with fail
        obtain ⟨wa, hwa⟩ : ∃ wa, wa = wr.setCell ⟨g, i * 5 + 3, none⟩ (.bool false) := ⟨_, rfl⟩
        rw [← hwa] at HQa ⊢
        clear hwa e3 f3 d4
        have d4 : wa.cell? ⟨q, 4, none⟩ = some (.slice (some ⟨g, 0, none⟩) n cap) := by have c := cellOf HQa.out.1.box 4; rw [HEL.out] at c; rw [HLn.out]; exact c
        have ka : wa.cell? ⟨g, i * 5 + 4, none⟩ = some (.bool f.dirty) := by have c := (HQa.out.1.cellK HOb.out (k := i) HL1.out 4 (by omega)).1; rw [show (({ s with L := F.mapT F.acc s.L i } : F.Po).L.set i { f with fresh := false })[i]'HL1.out = { f with fresh := false } from List.getElem_set_self _] at c; exact c
        have fa := (HQa.out.1.cellK HOb.out (k := i) HL1.out 4 (by omega)).2
        have HQb := hid (HQa.out.1.store HOb.out (k := i) HL1.out (j := 4) (by omega) (v := .bool true) (f := { f with fresh := false, dirty := true }) (by show (fc (((F.mapT F.acc s.L i).set i { f with fresh := false })[i]'HL1.out)).set 4 _ = _; rw [List.getElem_set_self]; rfl))
        go_upto_region 9 with fail
        obtain ⟨wb, hwb⟩ : ∃ wb, wb = wa.setCell ⟨g, i * 5 + 4, none⟩ (.bool true) := ⟨_, rfl⟩
        rw [← hwb] at HQb ⊢
        clear hwb ka fa d4
        have d4 : wb.cell? ⟨q, 4, none⟩ = some (.slice (some ⟨g, 0, none⟩) n cap) := by have c := cellOf HQb.out.1.box 4; rw [HEL.out] at c; rw [HLn.out]; exact c
        have kb : wb.cell? ⟨g, i * 5 + 2, none⟩ = some (.string ⟨f.was.toArray⟩) := by have c := (HQb.out.1.cellK HOb.out (k := i) HL2.out 2 (by omega)).1; rw [show ((({ s with L := F.mapT F.acc s.L i } : F.Po).L.set i { f with fresh := false }).set i { f with fresh := false, dirty := true })[i]'HL2.out = { f with fresh := false, dirty := true } from List.getElem_set_self _] at c; exact c
        have fb := (HQb.out.1.cellK HOb.out (k := i) HL2.out 2 (by omega)).2
        have HQc := hid (HQb.out.1.store HOb.out (k := i) HL2.out (j := 2) (by omega) (v := Str []) (f := { f with was := [], fresh := false, dirty := true }) (by show (fc ((((F.mapT F.acc s.L i).set i { f with fresh := false }).set i { f with fresh := false, dirty := true })[i]'HL2.out)).set 2 _ = _; rw [List.getElem_set_self]; rfl))
        go_wp2_with fail
        go_roundw
        case rel =>
          refine ⟨i + 1, m + 1, by go_num, by go_num, by omega, by omega, hid (by rw [HX2.out, ← HM.out]), ?_, ((HI.out.touch.trans (HQa.out.2.mono (fun b _ e => HO.out b e))).trans (HQb.out.2.mono (fun b _ e => HO.out b e))).trans (HQc.out.2.mono (fun b _ e => HO.out b e))⟩
          have q3 := HQc.out.1
          rw [F.mapT_next hi', ← HF.out, HX.out]
          simp only [List.set_set] at q3
          exact q3
        case measure => simp [intOf]; omega
    · have hltz : ¬ (i : Int) < (n : Int) := by omega
      obtain rfl : i = n := by omega
      go_wp2_with fail
      go_ret
      have e : m = N := by rw [HM.out, HLn.out]; exact HN.out
      rw [e]
      refine ⟨rfl, O, ⟨lv, ?_⟩, HI.out.touch, fun k c => .inl c⟩
      have q1 := HI.out.q
      rw [HLn.out, F.mapT_all] at q1
      exact q1
end Go.Proofs.YtjbdchgadfhffaaGreatDoor

/- The reference's call Drop. -/
namespace Go.Proofs.YtjbdchgadfhffaaGreatDoor
open Go.RowKit
namespace F
/-- What is left of the first frames. -/
def dropT (L : List Fr) (i : Nat) : List Fr := ((L.take i).filter kept).map drp
set_option maxRecDepth 100000 in
theorem dropT_next {L : List Fr} {i : Nat} (hi : i < L.length) : dropT L (i + 1) = if kept L[i] then dropT L i ++ [drp L[i]] else dropT L i := by
  unfold dropT
  have e1 : L.take (i + 1) = L.take i ++ [L[i]] := by simp
  rw [e1, List.filter_append, List.map_append, List.filter_cons]
  cases h : kept L[i] <;> simp
set_option maxRecDepth 100000 in
theorem dropT_all (L : List Fr) : dropT L L.length = (L.filter kept).map drp := by unfold dropT; rw [List.take_length]
set_option maxRecDepth 100000 in
theorem dropT_len (L : List Fr) (i : Nat) : (dropT L i).length ≤ i := by
  unfold dropT
  rw [List.length_map]
  refine Nat.le_trans (List.length_filter_le _ _) ?_
  rw [List.length_take]; omega
end F
set_option maxRecDepth 100000 in
theorem infoFr (f : F.Fr) : (Tryz.prog.info? 107).map (·.size) = some (fc f).length := by kernel_rfl
set_option maxRecDepth 100000 in
theorem zeroFr (w : World) : (zeroValue 107).run Tryz.prog w = .ok (.agg #[.int .i64 0, .string ⟨#[]⟩, .string ⟨#[]⟩, .bool false, .bool false]) w := by kernel_rfl
theorem one_fc (f : F.Fr) : ∀ u ∈ fc f, u.oneCell' = true := fun u hu => one_fcs [f] u (by rw [fcs_one]; exact hu)
theorem set_fr (w : World) (f : F.Fr) : (storeCells ⟨w.heap.size, 0, none⟩ (fc f) 0).run Tryz.prog (w.alloc (.cells #[.int .i64 0, .string ⟨#[]⟩, .string ⟨#[]⟩, .bool false, .bool false] 107)) = .ok () (w.alloc (.cells (fc f).toArray 107)) :=
  run_storeCells_new w 107 _ (fc f).toArray (infoFr f) rfl (all_oneCell_toArray (one_fc f))
theorem range_box {w : World} {b : Nat} {f : F.Fr} (h : w.heap[b]? = some (.cells (fc f).toArray 107 (0, 0))) : w.rangeAt b 0 (fc f) := fun j v hv => by
  rw [Nat.zero_add, cellOf h, List.getElem?_toArray]
  exact hv
set_option maxRecDepth 100000 in
theorem build_fr (f : F.Fr) (w : World) : (Instr.buildSlice 77 1 #[(0, .agg (fc f).toArray)]).run Tryz.prog w = .ok (.slice (some ⟨w.heap.size, 0, none⟩) 1 1) (w.alloc (.cells (fc f).toArray 107)) := by
  unfold fc
  kernel_rfl
theorem list_buildFr {w : World} {ops : Array Oper} {rest : List Oper} {o : Oper} {act : Act} {Q : Exit → Act → World → Prop} (hgd : o.guard = none) (x : Operand) (ho : o.op = .buildSlice 77 1 #[(0, x)]) (f : F.Fr) (hx : act.eval x = .agg (fc f).toArray)
    (h : wpList Tryz.prog ops Q rest (act.put o.dst (.slice (some ⟨w.heap.size, 0, none⟩) 1 1)) (w.alloc (.cells (fc f).toArray 107))) : wpList Tryz.prog ops Q (o :: rest) act w :=
  wpList_plain hgd fun _ hK => wp_buildSlice 77 1 0 x ho hx (build_fr f w) (hK _ _ h)
/-- On the way through the frames. -/
structure DrAt (w wr : World) (s : F.Po) (lv : Value) (i : Nat) : Prop where
  row : wr.ownsRow w.heap.size 107 5 lv (F.dropT s.L i).length (fcs (F.dropT s.L i))
  adds : Adds w wr
set_option maxRecDepth 100000 in
/-- One more is kept. -/
theorem DrAt.more {w wr w2 w3 : World} {s : F.Po} {lv v3 : Value} {i : Nat} (h : DrAt w wr s lv i) (hi : i < s.L.length) (hk : F.kept s.L[i] = true) (hT : Touch (fun k => wr.heap.size ≤ k) wr w2) (hr : w3.ownsRow w.heap.size 107 5 v3 ((F.dropT s.L i).length + 1) (fcs (F.dropT s.L i ++ [F.drp s.L[i]]))) (hg : w2.grownBy w3 lv.ownBlock) : DrAt w w3 s v3 (i + 1) := by
  have e : F.dropT s.L (i + 1) = F.dropT s.L i ++ [F.drp s.L[i]] := by rw [F.dropT_next hi, if_pos hk]
  have z1 := h.adds.size
  refine ⟨by rw [e, List.length_append]; exact hr, (h.adds.then hT (fun k hk' c => by omega)).then (grown_touch hg) (fun k hk' c => ?_)⟩
  have := (own_low h.row c).1
  omega
set_option maxRecDepth 100000 in
theorem DrAt.less {w wr w2 : World} {s : F.Po} {lv : Value} {i : Nat} (h : DrAt w wr s lv i) (hi : i < s.L.length) (hk : F.kept s.L[i] = false) (hT : Touch (fun k => wr.heap.size ≤ k) wr w2) : DrAt w w2 s lv (i + 1) := by
  have e : F.dropT s.L (i + 1) = F.dropT s.L i := by rw [F.dropT_next hi, if_neg (by rw [hk]; decide)]
  have z1 := h.adds.size
  exact ⟨by rw [e]; exact own_kept h.row hT (fun k hk' c => by have := (own_low h.row hk').2; omega), h.adds.then hT (fun k hk' c => by omega)⟩
set_option maxRecDepth 100000 in
set_option maxHeartbeats 4000000 in
theorem qDrop_any {w : World} {O : Nat → Prop} {q r : Nat} {s : F.Po} (h : IsQ w O q r s) (hl : s.L.length ≤ 10000) : Calls Tryz.prog 27 #[Ptr q] w (PQ11 w O q r (F.dropS s) (.int .i64 ((F.which s F.isFresh).length : Int))) := by
  obtain ⟨lv, h⟩ := h
  obtain ⟨N, hN⟩ : ∃ N, N = (F.which s F.isFresh).length := ⟨_, rfl⟩
  have HN := hid (show F.freshT s.L s.L.length = N by rw [hN]; exact F.freshT_all s)
  rw [← hN]
  obtain ⟨ao, cap, elv, hcap, hat0⟩ := h.at'
  subst elv
  have HQ := hid h
  have HFin := hid (fun (wr : World) (v2 : Value) (hA : Adds w wr) (hr : wr.ownsRow w.heap.size 107 5 v2 (F.dropT s.L s.L.length).length (fcs (F.dropT s.L s.L.length))) => show wr.heap[q]? = some (QBox r s (.slice ao s.L.length cap)) ∧ PQ11 w O q r (F.dropS s) (.int .i64 (N : Int)) (.returned (.int .i64 (N : Int))) (wr.setCell ⟨q, 4, none⟩ v2) by
    rw [F.dropT_all] at hr
    obtain ⟨q1, O', h1, h2, h3⟩ := h.set (hA.mono (fun _ _ c => c.elim)) (L := (s.L.filter F.kept).map F.drp) (v2 := v2) (own_down hr) (fun k hk => .inr (own_low hr hk).1)
    exact ⟨q1, rfl, O', ⟨_, h1⟩, h2, h3⟩)
  obtain ⟨n, hn⟩ : ∃ n, n = s.L.length := ⟨_, rfl⟩
  have HLn := hid hn
  rw [← hn] at hl hcap
  have hzv := zeroFr
  unfold Ptr
  clear h hN hat0 hn
  go_enter Tryz.func27, Tryz.ntmps27
  go_wp2_with fail
  go_loopw [3, 4, 5] (fun lv nv iv wr => ∃ i m : Nat, iv = .int .i64 (i : Int) ∧ nv = .int .i64 (m : Int) ∧ i ≤ n ∧ m ≤ i ∧ Hid (m = F.freshT s.L i) ∧ Hid (DrAt w wr s lv i)) (fun _ _ iv _ => n - (intOf iv).toNat)
  case atStart => exact ⟨0, 0, rfl, rfl, Nat.zero_le _, Nat.le_refl _, hid (by simp [F.freshT]), World.ownsRow_nil _ _ _ _, Touch.refl _ _⟩
  case round =>
    obtain ⟨i, m, rfl, rfl, hi, hmi, HM, HI⟩ := hrel
    have hqr := HQ.out.adds HI.out.adds
    have d4 : wr.cell? ⟨q, 4, none⟩ = some (.slice ao n cap) := by have c := cellOf hqr.box 4; rw [HLn.out]; exact c
    by_cases hlt : i < n
    · have hltz : (i : Int) < (n : Int) := by omega
      have hi' : i < s.L.length := by rw [← HLn.out]; exact hlt
      obtain ⟨ao', cap', e', _, hat⟩ := hqr.at'
      obtain ⟨g, ea, hob, hc, hfz⟩ := hat (by omega)
      have eao : ao = some ⟨g, 0, none⟩ := by
        have e2 := e'
        rw [ea] at e2
        simp at e2
        exact e2.1
      subst eao
      obtain ⟨f, hf⟩ : ∃ f, f = s.L[i] := ⟨_, rfl⟩
      have hrr : Hid (wr.rangeAt g (i * 5) (fc f)) := fun j v hv => by
        have hj : j < 5 := (List.getElem?_eq_some_iff.1 hv).1
        rw [hc i hi' j hj, ← hf]
        exact hv
      have hi53 := hid (infoFr f)
      have hset := set_fr wr f
      have HF := hid hf
      clear hqr hc hat hfz hf e' ea hob
      go_upto_region 6 with fail
      go_cut [6] from 7 to 44 (fun t6 w' => t6 = .pointer (some ⟨wr.heap.size, 0, none⟩) ∧ w' = wr.alloc (.cells (fc f).toArray 107))
      case first =>
        go_wp2_with (refine wpList_load_mid rfl 107 _ rfl g (i * 5) rfl (fc f) _ hrr.out Tryz.underlying107 rfl hi53.out ?_)
        go_meet
        case rel => exact ⟨rfl, rfl⟩
      case rest =>
        rename World => w5
        obtain ⟨hu6, hw5⟩ := hcut
        subst hu6
        obtain ⟨b, hb⟩ : ∃ b, b = wr.heap.size := ⟨_, rfl⟩
        have hh5 : w5.heap[b]? = some (.cells (fc f).toArray 107 (0, 0)) := by rw [hw5, hb]; exact heap_alloc_new wr _
        have HA5 := hid (show Adds wr w5 by rw [hw5]; exact (Touch.refl _ wr).alloc _)
        have HBz := hid (And.intro hb (show b < w5.heap.size by rw [hw5, hb]; simp))
        rw [← hb]
        have HH5 := hid hh5
        have c1 : w5.cell? ⟨b, 1, none⟩ = some (.string ⟨f.now.toArray⟩) := cellOf hh5 1
        have c2 : w5.cell? ⟨b, 2, none⟩ = some (.string ⟨f.was.toArray⟩) := cellOf hh5 2
        have c3 : w5.cell? ⟨b, 3, none⟩ = some (.bool f.fresh) := cellOf hh5 3
        have c4 : w5.cell? ⟨b, 4, none⟩ = some (.bool f.dirty) := cellOf hh5 4
        have f1 := frozen_of_row w5 b 1 _ 107 hh5
        have f2 := frozen_of_row w5 b 2 _ 107 hh5
        have f3 := frozen_of_row w5 b 3 _ 107 hh5
        have HT5 := hid (show Touch (fun k => wr.heap.size ≤ k) wr w5 from HA5.out.mono (fun _ _ c => c.elim))
        clear hset hrr hi53 hw5 hb hh5 d4
        cases hfr : f.fresh with
        | false =>
          rw [hfr] at c3
          have HX2 := hid (show F.freshT s.L (i + 1) = F.freshT s.L i by rw [F.freshT_next hi', ← HF.out, hfr]; rfl)
          have HK := hid (show F.kept s.L[i] = true by rw [← HF.out]; unfold F.kept; rw [hfr]; rfl)
          have HD := hid (show F.drp s.L[i] = f by rw [← HF.out]; unfold F.drp; rw [hfr]; rfl)
          have hr5 := hid (range_box HH5.out)
          have hi5 := hid (infoFr f)
          have HR5 := hid (own_kept HI.out.row (HT5.out.trans (show Touch (fun k => wr.heap.size ≤ k) w5 (w5.alloc (.cells (fc f).toArray 107)) from ((Touch.refl (fun _ => False) w5).alloc _).mono (fun _ _ c => c.elim))) (fun k hk' c => by have := (own_low HI.out.row hk').2; omega))
          have HKc := hid (show ∀ j u, (fcs [f])[j]? = some u → (w5.alloc (.cells (fc f).toArray 107)).cell? ((⟨w5.heap.size, 0, none⟩ : Addr).add j) = some u from fun j u hu => by
            rw [fcs_one] at hu
            rw [Addr.add_mid, Nat.zero_add, cellOf (heap_alloc_new w5 _), List.getElem?_toArray]
            exact hu)
          have HBs := hid (show w.heap.size ≤ (w5.alloc (.cells (fc f).toArray 107)).heap.size by have := HI.out.adds.size; have := HA5.out.size; simp; omega)
          have HLt := hid (show (F.dropT s.L i).length + 1 ≤ 100000 by have := F.dropT_len s.L i; omega)
          go_wp2_with (first
            | (refine wpList_load_mid rfl 107 _ rfl b 0 rfl (fc f) _ hr5.out Tryz.underlying107 rfl hi5.out ?_)
            | (refine list_buildFr rfl (.tmp 42) rfl f rfl ?_)
            | (at_builtin; refine append_fr rfl _ _ rfl w.heap.size _ _ (F.dropT s.L i) rfl HR5.out ⟨w5.heap.size, 0, none⟩ 1 1 [f] rfl rfl HKc.out HLt.out HBs.out ?_; intro v7 w7 hr7 hg7 ha7; have H7 := hid (And.intro hr7 hg7); clear hr7 hg7 ha7))
          go_roundw
          case rel =>
            refine ⟨i + 1, m, by go_num, rfl, by omega, by omega, hid (by rw [HX2.out]; exact HM.out), HI.out.more hi' HK.out (HT5.out.trans (show Touch (fun k => wr.heap.size ≤ k) w5 (w5.alloc (.cells (fc f).toArray 107)) from ((Touch.refl (fun _ => False) w5).alloc _).mono (fun _ _ c => c.elim))) ?_ H7.out.2⟩
            rw [HD.out]
            exact H7.out.1
          case measure => simp [intOf]; omega
        | true =>
          rw [hfr] at c3
          have HX2 := hid (show F.freshT s.L (i + 1) = F.freshT s.L i + 1 by rw [F.freshT_next hi', ← HF.out, hfr]; rfl)
          cases hdi : f.dirty with
          | false =>
            rw [hdi] at c4
            have HK := hid (show F.kept s.L[i] = false by rw [← HF.out]; unfold F.kept; rw [hfr, hdi]; rfl)
            go_wp2_with fail
            go_roundw
            case rel => exact ⟨i + 1, m + 1, by go_num, by go_num, by omega, by omega, hid (by rw [HX2.out, ← HM.out]), HI.out.less hi' HK.out HT5.out⟩
            case measure => simp [intOf]; omega
          | true =>
            rw [hdi] at c4
            have HK := hid (show F.kept s.L[i] = true by rw [← HF.out]; unfold F.kept; rw [hfr, hdi]; rfl)
            obtain ⟨f', hf'⟩ : ∃ f', f' = F.drp f := ⟨_, rfl⟩
            have HFc := hid (show fc f' = [.int .i64 f.no, Str f.was, Str [], .bool false, .bool true] by rw [hf']; unfold F.drp; rw [hfr]; show [Value.int .i64 f.no, Str f.was, Str [], .bool false, .bool f.dirty] = _; rw [hdi])
            have HD := hid (show F.drp s.L[i] = f' by rw [← HF.out, hf'])
            have HB8 := hid (show ∀ w8, w8 = ((w5.setCell ⟨b, 1, none⟩ (.string ⟨f.was.toArray⟩)).setCell ⟨b, 2, none⟩ (.string ⟨#[]⟩)).setCell ⟨b, 3, none⟩ (.bool false) → w8.heap[b]? = some (.cells (fc f').toArray 107 (0, 0)) ∧ Touch (fun k => k = b) w5 w8 from fun w8 e => by
              have q1 := heap_setCell_same w5 b 1 _ 107 (.string ⟨f.was.toArray⟩) HH5.out
              have q2 := heap_setCell_same _ b 2 _ 107 (.string ⟨#[]⟩) q1
              have q3 := heap_setCell_same _ b 3 _ 107 (.bool false) q2
              rw [e]
              refine ⟨?_, (((Touch.refl (fun k => k = b) w5).setCell (p := ⟨b, 1, none⟩) (fun _ => rfl) _).setCell (p := ⟨b, 2, none⟩) (fun _ => rfl) _).setCell (p := ⟨b, 3, none⟩) (fun _ => rfl) _⟩
              rw [q3, HFc.out]
              unfold fc
              rw [hdi]
              rfl)
            go_upto_region 13 with fail
            obtain ⟨w8, hw8⟩ : ∃ w8, w8 = ((w5.setCell ⟨b, 1, none⟩ (.string ⟨f.was.toArray⟩)).setCell ⟨b, 2, none⟩ (.string ⟨#[]⟩)).setCell ⟨b, 3, none⟩ (.bool false) := ⟨_, rfl⟩
            obtain ⟨hh8, hT8⟩ := HB8.out w8 hw8
            rw [← hw8]
            have g3 : w8.cell? ⟨b, 3, none⟩ = some (.bool false) := by have c := cellOf hh8 3; rw [HFc.out] at c; exact c
            have HT8 := hid (show Touch (fun k => wr.heap.size ≤ k) wr w8 from HT5.out.trans (hT8.mono (fun k _ e => by rw [e, HBz.out.1]; exact Nat.le_refl _)))
            have HZ8 := hid (show w5.heap.size ≤ w8.heap.size from hT8.size)
            have hr5 := hid (range_box hh8)
            have hi5 := hid (infoFr f')
            have HR5 := hid (own_kept HI.out.row (HT8.out.trans (show Touch (fun k => wr.heap.size ≤ k) w8 (w8.alloc (.cells (fc f').toArray 107)) from ((Touch.refl (fun _ => False) w8).alloc _).mono (fun _ _ c => c.elim))) (fun k hk' c => by have := (own_low HI.out.row hk').2; omega))
            have HKc := hid (show ∀ j u, (fcs [f'])[j]? = some u → (w8.alloc (.cells (fc f').toArray 107)).cell? ((⟨w8.heap.size, 0, none⟩ : Addr).add j) = some u from fun j u hu => by
              rw [fcs_one] at hu
              rw [Addr.add_mid, Nat.zero_add, cellOf (heap_alloc_new w8 _), List.getElem?_toArray]
              exact hu)
            have HBs := hid (show w.heap.size ≤ (w8.alloc (.cells (fc f').toArray 107)).heap.size by have := HI.out.adds.size; have := HA5.out.size; have := HZ8.out; simp; omega)
            have HLt := hid (show (F.dropT s.L i).length + 1 ≤ 100000 by have := F.dropT_len s.L i; omega)
            clear hw8 hh8 hT8 c1 c2 c3 c4 f1 f2 f3 hf'
            go_wp2_with (first
              | (refine wpList_load_mid rfl 107 _ rfl b 0 rfl (fc f') _ hr5.out Tryz.underlying107 rfl hi5.out ?_)
              | (refine list_buildFr rfl (.tmp 42) rfl f' rfl ?_)
              | (at_builtin; refine append_fr rfl _ _ rfl w.heap.size _ _ (F.dropT s.L i) rfl HR5.out ⟨w8.heap.size, 0, none⟩ 1 1 [f'] rfl rfl HKc.out HLt.out HBs.out ?_; intro v7 w7 hr7 hg7 ha7; have H7 := hid (And.intro hr7 hg7); clear hr7 hg7 ha7))
            go_roundw
            case rel =>
              refine ⟨i + 1, m + 1, by go_num, by go_num, by omega, by omega, hid (by rw [HX2.out, ← HM.out]), HI.out.more hi' HK.out (HT8.out.trans (show Touch (fun k => wr.heap.size ≤ k) w8 (w8.alloc (.cells (fc f').toArray 107)) from ((Touch.refl (fun _ => False) w8).alloc _).mono (fun _ _ c => c.elim))) ?_ H7.out.2⟩
              rw [HD.out]
              exact H7.out.1
            case measure => simp [intOf]; omega
    · have hltz : ¬ (i : Int) < (n : Int) := by omega
      obtain rfl : i = n := by omega
      have hrow := HI.out.row
      rw [HLn.out] at hrow
      obtain ⟨hb9, hp9⟩ := HFin.out wr _ HI.out.adds hrow
      obtain ⟨ga, gn, gc, ev⟩ : ∃ ga gn gc, u3 = .slice ga gn gc := by
        rcases hrow.2 with ⟨e, e0⟩ | ⟨g3, cap3, _, e, _⟩
        · exact ⟨_, _, _, e⟩
        · exact ⟨_, _, _, e⟩
      subst ev
      have HP9 := hid hp9
      have d5 := cellOf hb9 4
      have f5 := frozen_of_row wr q 4 _ 79 hb9
      have e : m = N := by rw [HM.out, HLn.out]; exact HN.out
      subst e
      clear hqr hrow hb9 hp9
      go_wp2_with fail
      go_ret
      exact HP9.out
end Go.Proofs.YtjbdchgadfhffaaGreatDoor

/- The reference's call Get. -/
namespace Go.Proofs.YtjbdchgadfhffaaGreatDoor
open Go.RowKit

set_option maxRecDepth 100000 in
theorem str_256Q (bs : List UInt8) (h : bs.length = 256) (w : World) : ∃ cap w1, (convert 9 37 (.string ⟨bs.toArray⟩)).run Tryz.prog w = .ok (.slice (some ⟨w.heap.size, 0, none⟩) 256 cap) w1 ∧ 256 ≤ cap ∧ At w1 (some ⟨w.heap.size, 0, none⟩) bs ∧ Adds w w1 := by
  have e : (⟨bs.toArray⟩ : ByteArray).size = 256 := by simp [ByteArray.size, h]
  have q := run_bytes_of_string (P := Tryz.prog) w 9 37 5 ⟨bs.toArray⟩ Tryz.underlying9 Tryz.underlying37 Tryz.underlying5
  rw [e] at q
  have hg : (w.drew.alloc (Obj.cells (bytesRow ⟨bs.toArray⟩ (grownCap w 256 0 5)) 5 ((bytesRow ⟨bs.toArray⟩ (grownCap w 256 0 5)).size, (bytesRow ⟨bs.toArray⟩ (grownCap w 256 0 5)).size + 1))).heap[w.heap.size]? = some _ := heap_alloc_new w.drew _
  refine ⟨_, _, q, grownCap_ge w 256 0 5, ?_, (Touch.refl _ w).drew.alloc _⟩
  intro j c hj
  refine ⟨_, _, rfl, ?_⟩
  have hlt : j < bs.length := (List.getElem?_eq_some_iff.1 hj).1
  rw [cell_of_row _ _ _ _ _ _ hg, Nat.zero_add, bytesRow_at _ _ j (by simpa using hlt)]
  rw [List.getElem?_eq_getElem hlt] at hj
  obtain rfl : bs[j] = c := by simpa using hj
  rfl
/-- From a world to a later one, of a pool of the reference's. -/
def Qs (w : World) (O : Nat → Prop) (w' : World) (O' : Nat → Prop) : Prop := Touch O w w' ∧ ∀ k, O' k → O k ∨ (w.heap.size ≤ k ∧ k < w'.heap.size)
set_option maxRecDepth 100000 in
theorem Qs.trans {w w1 w2 : World} {O O1 O2 : Nat → Prop} (h : Qs w O w1 O1) (h2 : Qs w1 O1 w2 O2) : Qs w O w2 O2 := by
  have z1 := h.1.size
  have z2 := h2.1.size
  refine ⟨h.1.then h2.1 (fun k hk c => ?_), fun k c => ?_⟩
  · rcases h.2 k c with c | c
    · exact c
    · omega
  · rcases h2.2 k c with c | c
    · rcases h.2 k c with c | c
      · exact .inl c
      · exact .inr ⟨c.1, by omega⟩
    · exact .inr ⟨by omega, c.2⟩
theorem Qs.adds {w w1 : World} (O : Nat → Prop) (hA : Adds w w1) : Qs w O w1 O := ⟨hA.mono (fun _ _ c => c.elim), fun _ c => .inl c⟩
set_option maxRecDepth 100000 in
theorem wp_append_fr {w : World} {o : Oper} {act : Act} {K : Act → World → Prop} {Q : Exit → Act → World → Prop} (s x : Operand)
    (ho : o.op = .call { callee := .builtin .append, args := #[s, x], argTypes := #[77, 77] }) (B : Nat) (v : Value) (n : Nat) (L : List F.Fr) (hs : act.eval s = v) (hown : w.ownsRow B 107 5 v n (fcs L))
    (ad : Addr) (m c : Nat) (M : List F.Fr) (hm : M.length = m) (hx : act.eval x = .slice (some ad) m c) (hK : ∀ j u, (fcs M)[j]? = some u → w.cell? (ad.add j) = some u) (hlen : n + m ≤ 100000) (hB : B ≤ w.heap.size)
    (h : ∀ v' w', w'.ownsRow B 107 5 v' (n + m) (fcs (L ++ M)) → w.grownBy w' v.ownBlock → (v'.ownBlock = v.ownBlock ∨ v'.ownBlock = some w.heap.size) → K (act.put o.dst v') w') : o.wp Tryz.prog act w K Q := by
  obtain ⟨i0, hi, hz0, hz1, hz2⟩ := infoFrame
  exact wp_append_own_at s x 77 ho B 107 i0 _ 5 48 Tryz.underlying77 hi hz0 hz1 hz2 rfl (by decide) v n (fcs L) hs hown ad m c (fcs M) hx (by rw [fcs_len, hm]) hK (one_fcs M) (by unfold maxLen; omega) (by omega) hB (fun v' w' h1 h2 _ h4 => h v' w' (by rw [fcs_app]; exact h1) h2 h4)
theorem box_cells {w : World} {b : Nat} {f : F.Fr} (h : w.heap[b]? = some (.cells (fc f).toArray 107 (0, 0))) : ∀ j u, (fcs [f])[j]? = some u → w.cell? ((⟨b, 0, none⟩ : Addr).add j) = some u := fun j u hu => by
  rw [fcs_one] at hu
  rw [Addr.add_mid, Nat.zero_add, cellOf h, List.getElem?_toArray]
  exact hu
set_option maxRecDepth 100000 in
theorem row_form {w : World} {B : Nat} {e : TypeId} {size : Nat} {v : Value} {n : Nat} {xs : List Value} (h : w.ownsRow B e size v n xs) : ∃ a c, v = .slice a n c := by
  rcases h.2 with ⟨e, e0⟩ | ⟨g3, cap3, _, e, _⟩
  · exact ⟨none, 0, by rw [e, e0]⟩
  · exact ⟨_, _, e⟩
set_option maxRecDepth 100000 in
/-- A frame has been put behind the others. -/
theorem q_pushed {w w6 w7 : World} {O : Nat → Prop} {q r : Nat} {s : F.Po} {lv v7 : Value} {f : F.Fr} (h : QAt w O q r s lv) (hA : Adds w w6) (hr : w7.ownsRow 0 107 5 v7 (s.L.length + 1) (fcs (s.L ++ [f]))) (hg : w6.grownBy w7 lv.ownBlock) (ha : v7.ownBlock = lv.ownBlock ∨ v7.ownBlock = some w6.heap.size) :
    w7.heap[q]? = some (QBox r s lv) ∧ ∃ O', IsQ (w7.setCell ⟨q, 4, none⟩ v7) O' q r { s with L := s.L ++ [f] } ∧ Qs w O (w7.setCell ⟨q, 4, none⟩ v7) O' := by
  have hT : Touch (fun k => lv.ownBlock = some k) w w7 := (hA.mono (fun _ _ c => c.elim)).trans (grown_touch hg)
  have z := hA.size
  obtain ⟨q1, O', h1, h2, h3⟩ := h.set hT (L := s.L ++ [f]) (v2 := v7) (by rw [List.length_append]; exact hr) (fun k hk => by
    rcases ha with c | c
    · exact .inl (by rw [← c]; exact hk)
    · rw [c] at hk
      have e : w6.heap.size = k := by simpa using hk
      exact .inr (by omega))
  exact ⟨q1, O', ⟨_, h1⟩, h2, h3⟩
theorem PQ11.of {w w' : World} {O O' : Nat → Prop} {q r : Nat} {s : F.Po} {v : Value} (h : IsQ w' O' q r s) (hs : Qs w O w' O') : PQ11 w O q r s v (.returned v) w' := ⟨rfl, O', h, hs.1, hs.2⟩
set_option maxRecDepth 100000 in
theorem qdrop_any {w : World} {O : Nat → Prop} {q r : Nat} {s : F.Po} {lv : Value} (h : QAt w O q r s lv) (hl : s.L.length ≤ 10000) (i : Int) (hi : i < (s.L.length : Int)) : Calls Tryz.prog 58 #[Ptr q, .int .i64 i] w (PQ11 w O q r { s with L := F.cutI s.L i } (.tuple #[])) := by
  by_cases h0 : i < 0
  · exact qdrop_no h i h0
  · obtain ⟨k, rfl⟩ : ∃ k : Nat, i = (k : Int) := ⟨i.toNat, by omega⟩
    exact qdrop_yes h hl k (by omega)
set_option maxRecDepth 100000 in
set_option maxHeartbeats 2000000 in
theorem qget_bad {w : World} {O : Nat → Prop} {q r : Nat} {s : F.Po} {lv : Value} (h : QAt w O q r s lv) (no : Int) (hno : F.inPool s no = false) : Calls Tryz.prog 24 #[Ptr q, .int .i64 no] w (PQ11 w O q r s (.tuple #[Str [], .int .i64 2])) := by
  have c2 : w.cell? ⟨q, 2, none⟩ = some (.int .i64 s.ct) := cellOf h.box 2
  have HQ := hid (PQ11.same (show IsQ w O q r s from ⟨lv, h⟩) (Touch.refl _ w) (.tuple #[Str [], .int .i64 2]))
  clear h
  have h3 : no < 0 ∨ s.ct ≤ no := by
    unfold F.inPool at hno
    simp at hno
    omega
  clear hno
  unfold Str Ptr at *
  by_cases h1 : no < 0
  · have d1 : decide (no < 0) = true := by simpa using h1
    go_enter Tryz.func24, Tryz.ntmps24
    go_wp2_with fail
    go_ret2
    exact HQ.out
  · have d1 : decide (no < 0) = false := by simpa using h1
    have d2 : decide (s.ct ≤ no) = true := by simp; omega
    go_enter Tryz.func24, Tryz.ntmps24
    go_wp2_with fail
    go_ret2
    exact HQ.out
set_option maxRecDepth 100000 in
set_option maxHeartbeats 4000000 in
theorem qget_held {w : World} {O : Nat → Prop} {q r : Nat} {s : F.Po} {lv : Value} (h : QAt w O q r s lv) (hO : ∀ k, O k → k < w.heap.size) (hl : s.L.length ≤ 9000) (no : Int) (hno : F.inPool s no = true) (i : Nat) (hi : i < s.L.length) (he : F.idx s.L no = (i : Int)) :
    Calls Tryz.prog 24 #[Ptr q, .int .i64 no] w (PQ11 w O q r { s with L := F.cutI s.L (i : Int) ++ [s.L[i]] } (.tuple #[Str s.L[i].now, .int .i64 0])) := by
  have c2 : w.cell? ⟨q, 2, none⟩ = some (.int .i64 s.ct) := cellOf h.box 2
  have h3 : 0 ≤ no ∧ no < s.ct := by simpa [F.inPool] using hno
  have d1 : decide (no < 0) = false := by simp; omega
  have d2 : decide (s.ct ≤ no) = false := by simp; omega
  have HF := hid (show Calls Tryz.prog 56 #[.pointer (some ⟨q, 0, none⟩), .int .i64 no] w (Tells (.int .i64 (i : Int)) w) by rw [← he]; exact qfind_any h no (by omega))
  obtain ⟨ao, cap, elv, hcap, hat⟩ := h.at'
  obtain ⟨g, ea, hob, hc, hfz⟩ := hat (by omega)
  subst ea
  obtain ⟨f, hf⟩ : ∃ f, f = s.L[i] := ⟨_, rfl⟩
  have hrr : Hid (w.rangeAt g (i * 5) (fc f)) := fun j v hv => by
    have hj : j < 5 := (List.getElem?_eq_some_iff.1 hv).1
    rw [hc i hi j hj, ← hf]
    exact hv
  rw [← hf]
  obtain ⟨n, hn⟩ : ∃ n, n = s.L.length := ⟨_, rfl⟩
  have d4 : w.cell? ⟨q, 4, none⟩ = some (.slice (some ⟨g, 0, none⟩) n cap) := by rw [hn, ← elv]; exact cellOf h.box 4
  have hin : i < n := by rw [hn]; exact hi
  have hnl : n ≤ 9000 := by rw [hn]; exact hl
  have hi53 := hid (infoFr f)
  have hset := set_fr w f
  have hzv := zeroFr
  have HQ := hid h
  have HOO := hid hO
  have HDr := hid (fun w' (hA : Adds w w') => show Calls Tryz.prog 58 #[.pointer (some ⟨q, 0, none⟩), .int .i64 (i : Int)] w' (PQ11 w' O q r { s with L := F.cutI s.L (i : Int) } (.tuple #[])) from qdrop_any (h.adds hA) (by omega) (i : Int) (by omega))
  have HLen := hid (show (F.cutI s.L (i : Int)).length ≤ 9000 from Nat.le_trans (F.cut_len _ _) hl)
  have hi0 : decide ((0 : Int) ≤ (i : Int)) = true := by simp
  unfold Str Ptr at *
  clear h hno h3 he hat hc hfz hob elv hf hn hcap hl hO
  go_enter Tryz.func24, Tryz.ntmps24
  go_upto_region 5 with (first | (go_at_call 56; refine HF.out.mono ?_; rintro e _ ⟨rfl, hw⟩; rw [hw]; clear hw))
  go_cut [7] (fun t7 w' => t7 = .pointer (some ⟨w.heap.size, 0, none⟩) ∧ w' = w.alloc (.cells (fc f).toArray 107))
  case first =>
    go_wp2_with (refine wpList_load_mid rfl 107 _ rfl g (i * 5) rfl (fc f) _ hrr.out Tryz.underlying107 rfl hi53.out ?_)
    go_meet
    case rel => exact ⟨rfl, rfl⟩
  case rest =>
    rename World => w5
    obtain ⟨hu7, hw5⟩ := hcut
    subst hu7
    obtain ⟨b, hb⟩ : ∃ b, b = w.heap.size := ⟨_, rfl⟩
    have HA5 := hid (show Adds w w5 by rw [hw5]; exact (Touch.refl _ w).alloc _)
    have HB5 := hid (show w5.heap[b]? = some (.cells (fc f).toArray 107 (0, 0)) by rw [hw5, hb]; exact heap_alloc_new w _)
    have HBz := hid (And.intro hb (show b < w5.heap.size by rw [hw5, hb]; simp))
    rw [← hb]
    have HD5 := hid (HDr.out w5 HA5.out)
    clear hset hrr hi53 hw5 hb d4 HDr
    go_upto_region 7 with (first | (go_at_call 58; refine HD5.out.mono ?_; rintro e w6a ⟨rfl, H6⟩))
    obtain ⟨O6, ⟨lv6, hq6⟩, hT6, hO6⟩ := H6.out
    have HQ6 := hid hq6
    have hb6 : ¬ O b := fun c => by have := HOO.out b c; have := HBz.out.1; omega
    have HB6 := hid (show w6a.heap[b]? = some (.cells (fc f).toArray 107 (0, 0)) from hT6.at' HB5.out hb6)
    have HNb := hid (show ¬ O6 b from fun c => by
      rcases hO6 b c with c | c
      · exact hb6 c
      · have := HBz.out.2; omega)
    have HQs := hid (show Qs w O w6a O6 from (Qs.adds O HA5.out).trans ⟨hT6, hO6⟩)
    have HS2 := hid (show (∀ w', Adds w6a w' → (fun w' : World => w'.heap[q]? = some (QBox r { s with L := F.cutI s.L (i : Int) } lv6) ∧ w'.heap[b]? = some (.cells (fc f).toArray 107 (0, 0))) w') ∧ (∀ w6 w7, Adds w6a w6 → w6.grownBy w7 lv6.ownBlock → (fun w' : World => w'.heap[q]? = some (QBox r { s with L := F.cutI s.L (i : Int) } lv6) ∧ w'.heap[b]? = some (.cells (fc f).toArray 107 (0, 0))) w7) from ⟨fun w' hA => ⟨(HQ6.out.adds hA).box, hA.at' HB6.out id⟩, fun w6 w7 hA hg => ⟨by
      have hT := (hA.mono (U := fun k => lv6.ownBlock = some k) (fun _ _ c => c.elim)).trans (grown_touch hg)
      exact hT.at' HQ6.out.box (fun c => HQ6.out.ne c rfl), by
      have hT := (hA.mono (U := fun k => lv6.ownBlock = some k) (fun _ _ c => c.elim)).trans (grown_touch hg)
      exact hT.at' HB6.out (fun c => HNb.out (HQ6.out.ol b c))⟩⟩)
    have HFin := hid (fun (w8 : World) (O8 : Nat → Prop) (h8 : IsQ w8 O8 q r { s with L := F.cutI s.L (i : Int) ++ [f] }) (hs : Qs w6a O6 w8 O8) => show PQ11 w O q r { s with L := F.cutI s.L (i : Int) ++ [f] } (.tuple #[.string ⟨f.now.toArray⟩, .int .i64 0]) (.returned (.tuple #[.string ⟨f.now.toArray⟩, .int .i64 0])) w8 from PQ11.of h8 (HQs.out.trans hs))
    have HLn6 := hid (show ({ s with L := F.cutI s.L (i : Int) } : F.Po).L.length + 1 ≤ 100000 by show (F.cutI s.L (i : Int)).length + 1 ≤ 100000; have := HLen.out; omega)
    clear hq6 hT6 hO6 hb6
    refine E_begin (S := fun w' : World => w'.heap[q]? = some (QBox r { s with L := F.cutI s.L (i : Int) } lv6) ∧ w'.heap[b]? = some (.cells (fc f).toArray 107 (0, 0))) (X := 10) (by kernel_rfl) ?_
    have hS0 : (fun w' : World => w'.heap[q]? = some (QBox r { s with L := F.cutI s.L (i : Int) } lv6) ∧ w'.heap[b]? = some (.cells (fc f).toArray 107 (0, 0))) w6a.drew := ⟨HQ6.out.box, HB6.out⟩
    refine E_put (i := 0) 36 (v := .pointer (some ⟨q, 0, none⟩)) rfl rfl (by kernel_rfl) (by kernel_rfl) (by kernel_rfl) (by kernel_rfl) (fun _ _ _ h => h) (Or.inl ⟨by rfl, fun w' hw' => ?_⟩) hS0 ?_
    · rfl
    simp only [Act.put, List.setIfInBounds_toArray, List.set_cons_zero, List.set_cons_succ]
    refine E_put (i := 1) 37 (v := .pointer (some ⟨q, 0, none⟩)) rfl rfl (by kernel_rfl) (by kernel_rfl) (by kernel_rfl) (by kernel_rfl) (fun _ _ _ h => h) (Or.inl ⟨by rfl, fun w' hw' => ?_⟩) hS0 ?_
    · rfl
    simp only [Act.put, List.setIfInBounds_toArray, List.set_cons_zero, List.set_cons_succ]
    refine E_put (i := 2) 38 (v := .pointer (some ⟨q, 0, none⟩)) rfl rfl (by kernel_rfl) (by kernel_rfl) (by kernel_rfl) (by kernel_rfl) (fun _ _ _ h => h) (Or.inl ⟨by rfl, fun w' hw' => ?_⟩) hS0 ?_
    · go_simp
    simp only [Act.put, List.setIfInBounds_toArray, List.set_cons_zero, List.set_cons_succ]
    refine E_put (i := 3) 39 (v := .pointer (some ⟨q, 4, none⟩)) rfl rfl (by kernel_rfl) (by kernel_rfl) (by kernel_rfl) (by kernel_rfl) (fun _ _ _ h => h) (Or.inl ⟨by rfl, fun w' hw' => ?_⟩) hS0 ?_
    · go_simp
    simp only [Act.put, List.setIfInBounds_toArray, List.set_cons_zero, List.set_cons_succ]
    refine E_put (i := 4) 40 (v := lv6) rfl rfl (by kernel_rfl) (by kernel_rfl) (by kernel_rfl) (by kernel_rfl) (fun _ _ _ h => h) (Or.inl ⟨by rfl, fun w' hw' => ?_⟩) hS0 ?_
    · (have c := cellOf hw'.1 4; clear hw'; go_simp)
    simp only [Act.put, List.setIfInBounds_toArray, List.set_cons_zero, List.set_cons_succ]
    refine E_put (i := 5) 41 (v := .agg (fc f).toArray) rfl rfl (by kernel_rfl) (by kernel_rfl) (by kernel_rfl) (by kernel_rfl) (fun _ _ _ h => h) (yieldsIf_load_mid (by rfl) 107 (.tmp 7) rfl b 0 rfl (fc f) _ (fun w' hw' => range_box hw'.2) Tryz.underlying107 rfl (infoFr f)) hS0 ?_
    simp only [Act.put, List.setIfInBounds_toArray, List.set_cons_zero, List.set_cons_succ]
    obtain ⟨w6, hw6⟩ : ∃ w6, w6 = w6a.drew.alloc (.cells (fc f).toArray 107) := ⟨_, rfl⟩
    have hA6 : Adds w6a w6 := by rw [hw6]; exact (Touch.refl _ w6a).drew.alloc _
    have hN6 : w6.heap[w6a.heap.size]? = some (.cells (fc f).toArray 107 (0, 0)) := by rw [hw6]; exact heap_alloc_new w6a.drew _
    have HZ6 := hid (show w6.heap.size = w6a.heap.size + 1 by rw [hw6]; simp)
    have hS6 := HS2.out.1 w6 hA6
    refine E_do (i := 6) (some 42) (by kernel_rfl) rfl rfl rfl (fun K hK => ?_)
    refine wp_buildSlice 77 1 0 (.tmp 41) rfl rfl (build_fr f _) ?_
    rw [← hw6]
    refine hK _ _ (fun _ => hS6) ?_
    clear hK K
    simp only [Act.put, List.setIfInBounds_toArray, List.set_cons_zero, List.set_cons_succ]
    have HA6 := hid hA6
    have HN6 := hid hN6
    clear hw6 hA6 hN6 hS0
    refine E_do (i := 7) (some 43) (by kernel_rfl) rfl rfl rfl (fun K hK => ?_)
    refine wp_append_fr _ _ rfl 0 lv6 _ _ rfl (HQ6.out.adds HA6.out).row ⟨w6a.heap.size, 0, none⟩ 1 1 [f] rfl rfl (box_cells HN6.out) HLn6.out (Nat.zero_le _) ?_
    intro v7 w7 hr7 hg7 ha7
    obtain ⟨hb7, hp7⟩ := q_pushed HQ6.out HA6.out hr7 hg7 ha7
    have hS7 := HS2.out.2 w6 w7 HA6.out hg7
    obtain ⟨va7, vc7, ev7⟩ := row_form hr7
    subst ev7
    refine hK _ _ (fun _ => hS7) ?_
    clear hK K
    simp only [Act.put, List.setIfInBounds_toArray, List.set_cons_zero, List.set_cons_succ]
    have HP7 := hid hp7
    have HG7 := hid hg7
    have c47 := cellOf hb7 4
    have f47 := frozen_of_row w7 q 4 _ 79 hb7
    clear hr7 hg7 ha7 hp7 hb7
    refine E_do (i := 8) (some 44) (by kernel_rfl) rfl rfl rfl (fun K hK => ?_)
    go_simp
    refine hK (.pointer (some ⟨q, 0, none⟩)) _ (fun _ => hS7) ?_
    clear hK K
    simp only [Act.put, List.setIfInBounds_toArray, List.set_cons_zero, List.set_cons_succ]
    refine E_do (i := 9) (some 45) (by kernel_rfl) rfl rfl rfl (fun K hK => ?_)
    go_simp
    refine hK (.pointer (some ⟨q, 4, none⟩)) _ (fun _ => hS7) ?_
    clear hK K
    simp only [Act.put, List.setIfInBounds_toArray, List.set_cons_zero, List.set_cons_succ]
    refine E_do (i := 10) none (by kernel_rfl) rfl rfl rfl (fun K hK => ?_)
    go_simp
    refine hK undef _ (fun h => absurd rfl h) ?_
    clear hK K hS7
    simp only [Act.put]
    refine E_done (by kernel_rfl) ?_ _
    clear c47 f47
    obtain ⟨w8, hw8⟩ : ∃ w8, w7.setCell ⟨q, 4, none⟩ (.slice va7 (({ s with L := F.cutI s.L (i : Int) } : F.Po).L.length + 1) vc7) = w8 := ⟨_, rfl⟩
    rw [hw8] at HP7 ⊢
    have g1 : w8.cell? ⟨b, 1, none⟩ = some (.string ⟨f.now.toArray⟩) := by
      obtain ⟨O8, _, hs8⟩ := HP7.out
      exact cellOf (hs8.1.at' HB6.out HNb.out) 1
    clear hw8
    go_wp2_with fail
    go_ret2
    obtain ⟨O8, h8, hs8⟩ := HP7.out
    exact HFin.out w8 O8 h8 hs8
end Go.Proofs.YtjbdchgadfhffaaGreatDoor

/- The reference's call Get, of a page that is not held. -/
namespace Go.Proofs.YtjbdchgadfhffaaGreatDoor
open Go.RowKit

set_option maxRecDepth 100000 in
theorem IsRO.has {w : World} {O : Nat → Prop} {r : Nat} {D : dSt} (h : IsRO w O r D) (i : Int) : (hasOf D.H D.W i).length = 256 := by
  obtain ⟨hv, wv, hd, _⟩ := h
  exact hasOf_len i hd.good D.W hd.goodW
set_option maxRecDepth 100000 in
set_option maxHeartbeats 4000000 in
theorem qget_new {w : World} {O OR : Nat → Prop} {q r : Nat} {s : F.Po} {lv : Value} {D : dSt} {n0 : Nat} (h : QAt w O q r s lv) (hO : ∀ k, O k → k < w.heap.size) (hr : IsRO w OR r D) (hk : DOk D n0) (hn0 : n0 ≤ 900) (hok : POk s D) (hg : F.Good s) (hl : s.L.length ≤ 9000) (no : Int) (hno : F.inPool s no = true) (ha : F.at? s.L no = none) (hall : ∀ f ∈ s.L, f.no ≠ no) (he : F.idx s.L no = -1) :
    Calls Tryz.prog 24 #[Ptr q, .int .i64 no] w (PQ11 w O q r (F.getS s D no) (.tuple #[Str (F.getB s D no), .int .i64 (F.getE s D no : Int)])) := by
  have c2 : w.cell? ⟨q, 2, none⟩ = some (.int .i64 s.ct) := cellOf h.box 2
  have h3 : 0 ≤ no ∧ no < s.ct := by simpa [F.inPool] using hno
  have d1 : decide (no < 0) = false := by simp; omega
  have d2 : decide (s.ct ≤ no) = false := by simp; omega
  have HF := hid (show Calls Tryz.prog 56 #[.pointer (some ⟨q, 0, none⟩), .int .i64 no] w (Tells (.int .i64 (-1)) w) by rw [← he]; exact qfind_any h no (by omega))
  have HOu := hid (fun z (hz : F.outI s = z) => show Calls Tryz.prog 57 #[.pointer (some ⟨q, 0, none⟩)] w (Adding (.int .i64 z) w) by rw [← hz]; exact qout_any h (by omega))
  have hE : F.getE s D no = F.rdE s D no := by unfold F.getE; rw [hno, ha]; rfl
  have hFr : F.getF s D no = ⟨no, F.rdB s D no, [], false, false⟩ := by unfold F.getF; rw [ha]
  have HB := hid (show F.getB s D no = if F.rdE s D no = 0 then F.rdB s D no else [] by unfold F.getB; rw [hE, hFr])
  have HS := hid (show F.getS s D no = if F.rdE s D no = 0 then F.held s no ⟨no, F.rdB s D no, [], false, false⟩ else s by unfold F.getS; rw [hE, hFr])
  rw [hE]
  have HSm := hid (fun w' (hA : Adds w w') v => PQ11.same (w := w) (w' := w') (show IsQ w O q r s from ⟨lv, h⟩) hA v)
  rcases F.out_is hg ha hall with ⟨e1, e2⟩ | ⟨j, e1, e2, e3, e4, e5⟩
  · have hz : F.rdE s D no = 33 := by unfold F.rdE; rw [e2]; rfl
    rw [HB.out, HS.out, hz]
    have HOu2 := hid (HOu.out _ e1)
    clear h hO hr hk hok hg hno ha hall he e1 e2 h3 hE hFr hz
    unfold Str Ptr at *
    go_enter Tryz.func24, Tryz.ntmps24
    go_wp2_with (first
      | (go_at_call 56; refine HF.out.mono ?_; rintro e _ ⟨rfl, hw⟩; rw [hw]; clear hw)
      | (go_at_call 57; refine HOu2.out.mono ?_; rintro e w2 ⟨rfl, hA2⟩; have HA2 := hid hA2; clear hA2))
    go_ret2
    exact HSm.out w2 HA2.out _
  · have HOu2 := hid (HOu.out _ e1)
    have hj2 : (j == -2) = false := by simpa using e2
    have hi : 0 ≤ s.fr + no ∧ s.fr + no < D.size := by have := hok.fr0; have := hok.fit; omega
    have hwi : IntKind.i64.wrap (s.fr + no) = s.fr + no := by rw [IntKind.wrap_i64]; have := hok.fr0; have := hok.fit; have := hok.size; omega
    have hwr : wrap64 (s.fr + no) = s.fr + no := by have := hok.fr0; have := hok.fit; have := hok.size; simp [wrap64]; omega
    have HBx := hid (fun w' (hA : Adds w w') => show w'.heap[q]? = some (QBox r s lv) from (h.adds hA).box)
    by_cases hon : D.left = 0
    · have hz : F.rdE s D no = 10 := by unfold F.rdE; rw [e4, hon]; rfl
      rw [HB.out, HS.out, hz]
      have HRd := hid (fun w' (hA : Adds w w') => show Calls Tryz.prog 40 #[.pointer (some ⟨r, 0, none⟩), .int .i64 (s.fr + no)] w' (Tells (.tuple #[.string ⟨#[]⟩, .int .i64 10]) w') from ro_read (hr.adds hA) hk hn0 (s.fr + no) hi [] 10 (by unfold rdS; rw [if_pos hon]) (by rw [if_pos hon]))
      clear h hO hr hk hok hg hno ha hall he e1 e2 e3 e4 e5 h3 hE hFr hz hi
      unfold Str Ptr at *
      go_enter Tryz.func24, Tryz.ntmps24
      go_upto_region 12 with (first
        | (go_at_call 56; refine HF.out.mono ?_; rintro e _ ⟨rfl, hw⟩; rw [hw]; clear hw)
        | (go_at_call 57; refine HOu2.out.mono ?_; rintro e w2 ⟨rfl, hA2⟩; have HA2 := hid hA2; clear hA2))
      have g0 : w2.cell? ⟨q, 0, none⟩ = some (.pointer (some ⟨r, 0, none⟩)) := cellOf (HBx.out w2 HA2.out) 0
      have g1 : w2.cell? ⟨q, 1, none⟩ = some (.int .i64 s.fr) := cellOf (HBx.out w2 HA2.out) 1
      go_quiet (first | (go_at_call 40; refine Calls.quiet_of_same (HRd.out _ (HA2.out.trans (adds_drewN _ _)))))
      go_wp2
      go_ret2
      exact HSm.out _ (HA2.out.trans (adds_drewN _ _)) _
    · obtain ⟨bs, hbs⟩ : ∃ bs, bs = hasOf D.H D.W (s.fr + no) := ⟨_, rfl⟩
      have hlb : bs.length = 256 := by rw [hbs]; exact hr.has _
      have hz : F.rdE s D no = M.openE bs no := by unfold F.rdE; rw [e4, if_neg hon, hbs]; rfl
      have hcs : F.rdB s D no = M.openP bs no := by unfold F.rdB; rw [hbs]
      rw [hz, hcs] at HB HS
      rw [hz, HB.out, HS.out]
      have HHeld := hid (e5 ⟨no, M.openP bs no, [], false, false⟩)
      have HRd := hid (fun w' (hA : Adds w w') => show Calls Tryz.prog 40 #[.pointer (some ⟨r, 0, none⟩), .int .i64 (s.fr + no)] w' (Tells (.tuple #[.string ⟨bs.toArray⟩, .int .i64 0]) w') from ro_read (hr.adds hA) hk hn0 (s.fr + no) hi bs 0 (by unfold rdS; rw [if_neg hon, hbs]) (by rw [if_neg hon]))
      have HOp := hid (fun (w' : World) (g c : Nat) (hc : 256 ≤ c) (hB : At w' (some ⟨g, 0, none⟩) bs) => ropen9_any (some ⟨g, 0, none⟩) bs 256 c no w' hlb hc hB)
      have HLz := hid (And.intro (@openP_len bs no) (@openP_nil bs no))
      have HQ := hid h
      have HOO := hid hO
      have HLb := hid hlb
      have HJ := hid e3
      have HLl := hid hl
      clear h hO hr hk hok hg hno ha hall he e1 e2 e3 e4 e5 h3 hE hFr hz hi hcs hbs hlb HB HS hon
      generalize M.openE bs no = z at *
      generalize M.openP bs no = cs at *
      obtain ⟨sG, hsG⟩ : ∃ sG, sG = if z = 0 then F.held s no ⟨no, cs, [], false, false⟩ else s := ⟨_, rfl⟩
      obtain ⟨bG, hbG⟩ : ∃ bG, bG = if z = 0 then cs else [] := ⟨_, rfl⟩
      rw [← hsG, ← hbG]
      have HsG := hid (And.intro hsG hbG)
      clear hsG hbG
      unfold Str Ptr at *
      go_enter Tryz.func24, Tryz.ntmps24
      go_upto_region 12 with (first
        | (go_at_call 56; refine HF.out.mono ?_; rintro e _ ⟨rfl, hw⟩; rw [hw]; clear hw)
        | (go_at_call 57; refine HOu2.out.mono ?_; rintro e w2 ⟨rfl, hA2⟩; have HA2 := hid hA2; clear hA2))
      have g0 : w2.cell? ⟨q, 0, none⟩ = some (.pointer (some ⟨r, 0, none⟩)) := cellOf (HBx.out w2 HA2.out) 0
      have g1 : w2.cell? ⟨q, 1, none⟩ = some (.int .i64 s.fr) := cellOf (HBx.out w2 HA2.out) 1
      go_cut [8, 9] (fun t8 t9 w' => t8 = .string ⟨bs.toArray⟩ ∧ t9 = .int .i64 0 ∧ Hid (Adds w w'))
      case first =>
        go_quiet (first | (go_at_call 40; refine Calls.quiet_of_same (HRd.out _ (HA2.out.trans (adds_drewN _ _)))))
        go_wp2
        go_meet
        case rel => exact ⟨rfl, rfl, HA2.out.trans (adds_drewN _ _)⟩
      case rest =>
        rename World => w3
        obtain ⟨rfl, rfl, HA3⟩ := hcut
        obtain ⟨sc, w4, hcv, hsc, hat4, hA4⟩ := str_256Q bs HLb.out w3
        have HOp4 := hid (HOp.out w4 w3.heap.size sc hsc hat4)
        have HA4 := hid (HA3.out.trans hA4)
        clear hsc hat4 hA4 g0 g1
        by_cases hz : z = 0
        · have hl6 : cs.length = 256 := HLz.out.1 hz
          have HCL := hid hl6
          subst hz
          clear hl6
          obtain ⟨f, hf⟩ : ∃ f : F.Fr, f = ⟨no, cs, [], false, false⟩ := ⟨_, rfl⟩
          have HFc := hid (show fc f = [.int .i64 no, .string ⟨cs.toArray⟩, .string ⟨#[]⟩, .bool false, .bool false] by rw [hf]; rfl)
          have HG := hid (show sG = { s with L := F.cutI s.L j ++ [f] } ∧ bG = cs by
            refine ⟨?_, by rw [HsG.out.2, if_pos rfl]⟩
            rw [HsG.out.1, if_pos rfl, HHeld.out, hf])
          clear hf
          have HDr := hid (fun w' (hA : Adds w w') => show Calls Tryz.prog 58 #[.pointer (some ⟨q, 0, none⟩), .int .i64 j] w' (PQ11 w' O q r { s with L := F.cutI s.L j } (.tuple #[])) from qdrop_any (HQ.out.adds hA) (by have := HLl.out; omega) j HJ.out)
          go_upto_region 18 with (first
            | (go_at_call 59; refine HOp4.out.mono ?_; rintro e w5 ⟨ra, rc, rfl, H5⟩; rw [HCL.out]))
          have HA5 := hid (HA4.out.trans H5.out.2.2.2)
          have HD5 := hid (HDr.out w5 HA5.out)
          go_upto_region 19 with (first | (go_at_call 58; refine HD5.out.mono ?_; rintro e w6a ⟨rfl, H6⟩))
          obtain ⟨O6, ⟨lv6, hq6⟩, hT6, hO6⟩ := H6.out
          have HQ6 := hid hq6
          have hra : ∀ b o, ra = some ⟨b, o, none⟩ → b < w5.heap.size ∧ w.heap.size ≤ b := fun b o e => by
            obtain ⟨b', o', e', hc⟩ := H5.out.1 0 (cs[0]'(by rw [HCL.out]; decide)) (by simp)
            rw [e] at e'
            cases e'
            have h1 := H5.out.2.2.1.2 b o e
            have h2 := HA4.out.size
            exact ⟨World.block_lt_of_cell? _ _ hc, by omega⟩
          have hnO6 : ∀ b o, ra = some ⟨b, o, none⟩ → ¬ O6 b := fun b o e c => by
            obtain ⟨h1, h2⟩ := hra b o e
            rcases hO6 b c with c | c
            · have := HOO.out b c; omega
            · omega
          have HAt6 := hid (show At w6a ra cs from H5.out.1.block (fun b o e hb => hT6.block b hb (fun c => by have := (hra b o e).2; have := HOO.out b c; omega)))
          have HnO := hid hnO6
          have HQs := hid (show Qs w O w6a O6 from (Qs.adds O HA5.out).trans ⟨hT6, hO6⟩)
          have HCv := hid (fun (w' : World) (h : At w' ra cs) => show (convert 37 9 (.slice ra 256 rc)).run Tryz.prog w' = .ok (.string ⟨cs.toArray⟩) w' by
            have q := conv_at w' ra cs rc h
            rw [HCL.out] at q
            exact q)
          have HS2 := hid (show (∀ w', Adds w6a w' → (fun w' : World => w'.heap[q]? = some (QBox r { s with L := F.cutI s.L j } lv6) ∧ At w' ra cs) w') ∧ (∀ w6 w7, Adds w6a w6 → w6.grownBy w7 lv6.ownBlock → (fun w' : World => w'.heap[q]? = some (QBox r { s with L := F.cutI s.L j } lv6) ∧ At w' ra cs) w7) from ⟨fun w' hA => ⟨(HQ6.out.adds hA).box, HAt6.out.adds hA⟩, fun w6 w7 hA hg => ⟨by
            have hT := (hA.mono (U := fun k => lv6.ownBlock = some k) (fun _ _ c => c.elim)).trans (grown_touch hg)
            exact hT.at' HQ6.out.box (fun c => HQ6.out.ne c rfl), by
            have hT := (hA.mono (U := fun k => lv6.ownBlock = some k) (fun _ _ c => c.elim)).trans (grown_touch hg)
            exact HAt6.out.block (fun b o e hb => hT.block b hb (fun c => HnO.out b o e (HQ6.out.ol b c)))⟩⟩)
          have HFin := hid (fun (w8 : World) (O8 : Nat → Prop) (h8 : IsQ w8 O8 q r { s with L := F.cutI s.L j ++ [f] }) (hs : Qs w6a O6 w8 O8) => show PQ11 w O q r { s with L := F.cutI s.L j ++ [f] } (.tuple #[.string ⟨cs.toArray⟩, .int .i64 0]) (.returned (.tuple #[.string ⟨cs.toArray⟩, .int .i64 0])) w8 from PQ11.of h8 (HQs.out.trans hs))
          have HLn6 := hid (show ({ s with L := F.cutI s.L j } : F.Po).L.length + 1 ≤ 100000 by show (F.cutI s.L j).length + 1 ≤ 100000; have := F.cut_len s.L j; have := HLl.out; omega)
          clear hq6 hT6 hO6 hnO6 hra
          refine E_begin (S := fun w' : World => w'.heap[q]? = some (QBox r { s with L := F.cutI s.L j } lv6) ∧ At w' ra cs) (X := 13) (by kernel_rfl) ?_
          have hS0 : (fun w' : World => w'.heap[q]? = some (QBox r { s with L := F.cutI s.L j } lv6) ∧ At w' ra cs) w6a.drew := ⟨HQ6.out.box, HAt6.out.adds (Touch.refl _ w6a).drew⟩
          refine E_put (i := 0) 82 (v := .pointer (some ⟨q, 0, none⟩)) rfl rfl (by kernel_rfl) (by kernel_rfl) (by kernel_rfl) (by kernel_rfl) (fun _ _ _ h => h) (Or.inl ⟨by rfl, fun w' hw' => ?_⟩) hS0 ?_
          · rfl
          simp only [Act.put, List.setIfInBounds_toArray, List.set_cons_zero, List.set_cons_succ]
          refine E_put (i := 1) 83 (v := .pointer (some ⟨q, 0, none⟩)) rfl rfl (by kernel_rfl) (by kernel_rfl) (by kernel_rfl) (by kernel_rfl) (fun _ _ _ h => h) (Or.inl ⟨by rfl, fun w' hw' => ?_⟩) hS0 ?_
          · rfl
          simp only [Act.put, List.setIfInBounds_toArray, List.set_cons_zero, List.set_cons_succ]
          refine E_put (i := 2) 84 (v := .pointer (some ⟨q, 0, none⟩)) rfl rfl (by kernel_rfl) (by kernel_rfl) (by kernel_rfl) (by kernel_rfl) (fun _ _ _ h => h) (Or.inl ⟨by rfl, fun w' hw' => ?_⟩) hS0 ?_
          · go_simp
          simp only [Act.put, List.setIfInBounds_toArray, List.set_cons_zero, List.set_cons_succ]
          refine E_put (i := 3) 85 (v := .pointer (some ⟨q, 4, none⟩)) rfl rfl (by kernel_rfl) (by kernel_rfl) (by kernel_rfl) (by kernel_rfl) (fun _ _ _ h => h) (Or.inl ⟨by rfl, fun w' hw' => ?_⟩) hS0 ?_
          · go_simp
          simp only [Act.put, List.setIfInBounds_toArray, List.set_cons_zero, List.set_cons_succ]
          refine E_put (i := 4) 86 (v := lv6) rfl rfl (by kernel_rfl) (by kernel_rfl) (by kernel_rfl) (by kernel_rfl) (fun _ _ _ h => h) (Or.inl ⟨by rfl, fun w' hw' => ?_⟩) hS0 ?_
          · (have c := cellOf hw'.1 4; clear hw'; go_simp)
          simp only [Act.put, List.setIfInBounds_toArray, List.set_cons_zero, List.set_cons_succ]
          refine E_put (i := 5) 87 (v := .int .i64 no) rfl rfl (by kernel_rfl) (by kernel_rfl) (by kernel_rfl) (by kernel_rfl) (fun _ _ _ h => h) (Or.inl ⟨by rfl, fun w' hw' => ?_⟩) hS0 ?_
          · rfl
          simp only [Act.put, List.setIfInBounds_toArray, List.set_cons_zero, List.set_cons_succ]
          refine E_put (i := 6) 88 (v := .slice ra 256 rc) rfl rfl (by kernel_rfl) (by kernel_rfl) (by kernel_rfl) (by kernel_rfl) (fun _ _ _ h => h) (Or.inl ⟨by rfl, fun w' hw' => ?_⟩) hS0 ?_
          · rfl
          simp only [Act.put, List.setIfInBounds_toArray, List.set_cons_zero, List.set_cons_succ]
          refine E_put (i := 7) 89 (v := .string ⟨cs.toArray⟩) rfl rfl (by kernel_rfl) (by kernel_rfl) (by kernel_rfl) (by kernel_rfl) (fun _ _ _ h => h) (Or.inl ⟨by rfl, fun w' hw' => ?_⟩) hS0 ?_
          · (have c := HCv.out w' hw'.2; clear hw'; go_simp)
          simp only [Act.put, List.setIfInBounds_toArray, List.set_cons_zero, List.set_cons_succ]
          refine E_put (i := 8) 90 (v := .agg (fc f).toArray) rfl rfl (by kernel_rfl) (by kernel_rfl) (by kernel_rfl) (by kernel_rfl) (fun _ _ _ h => h) (Or.inl ⟨by rfl, fun w' hw' => ?_⟩) hS0 ?_
          · (clear hw'; go_simp; exact HFc.out.symm)
          simp only [Act.put, List.setIfInBounds_toArray, List.set_cons_zero, List.set_cons_succ]
          obtain ⟨w6, hw6⟩ : ∃ w6, w6 = w6a.drew.alloc (.cells (fc f).toArray 107) := ⟨_, rfl⟩
          have hA6 : Adds w6a w6 := by rw [hw6]; exact (Touch.refl _ w6a).drew.alloc _
          have hN6 : w6.heap[w6a.heap.size]? = some (.cells (fc f).toArray 107 (0, 0)) := by rw [hw6]; exact heap_alloc_new w6a.drew _
          have HZ6 := hid (show w6.heap.size = w6a.heap.size + 1 by rw [hw6]; simp)
          have hS6 := HS2.out.1 w6 hA6
          refine E_do (i := 9) (some 91) (by kernel_rfl) rfl rfl rfl (fun K hK => ?_)
          refine wp_buildSlice 77 1 0 (.tmp 90) rfl rfl (build_fr f _) ?_
          rw [← hw6]
          refine hK _ _ (fun _ => hS6) ?_
          clear hK K
          simp only [Act.put, List.setIfInBounds_toArray, List.set_cons_zero, List.set_cons_succ]
          have HA6 := hid hA6
          have HN6 := hid hN6
          clear hw6 hA6 hN6 hS0
          refine E_do (i := 10) (some 92) (by kernel_rfl) rfl rfl rfl (fun K hK => ?_)
          refine wp_append_fr _ _ rfl 0 lv6 _ _ rfl (HQ6.out.adds HA6.out).row ⟨w6a.heap.size, 0, none⟩ 1 1 [f] rfl rfl (box_cells HN6.out) HLn6.out (Nat.zero_le _) ?_
          intro v7 w7 hr7 hg7 ha7
          obtain ⟨hb7, hp7⟩ := q_pushed HQ6.out HA6.out hr7 hg7 ha7
          have hS7 := HS2.out.2 w6 w7 HA6.out hg7
          obtain ⟨va7, vc7, ev7⟩ := row_form hr7
          subst ev7
          refine hK _ _ (fun _ => hS7) ?_
          clear hK K
          simp only [Act.put, List.setIfInBounds_toArray, List.set_cons_zero, List.set_cons_succ]
          have HP7 := hid hp7
          have HG7 := hid hg7
          have c47 := cellOf hb7 4
          have f47 := frozen_of_row w7 q 4 _ 79 hb7
          clear hr7 hg7 ha7 hp7 hb7
          refine E_do (i := 11) (some 93) (by kernel_rfl) rfl rfl rfl (fun K hK => ?_)
          go_simp
          refine hK (.pointer (some ⟨q, 0, none⟩)) _ (fun _ => hS7) ?_
          clear hK K
          simp only [Act.put, List.setIfInBounds_toArray, List.set_cons_zero, List.set_cons_succ]
          refine E_do (i := 12) (some 94) (by kernel_rfl) rfl rfl rfl (fun K hK => ?_)
          go_simp
          refine hK (.pointer (some ⟨q, 4, none⟩)) _ (fun _ => hS7) ?_
          clear hK K
          simp only [Act.put, List.setIfInBounds_toArray, List.set_cons_zero, List.set_cons_succ]
          refine E_do (i := 13) none (by kernel_rfl) rfl rfl rfl (fun K hK => ?_)
          go_simp
          refine hK undef _ (fun h => absurd rfl h) ?_
          clear hK K hS7
          simp only [Act.put]
          refine E_done (by kernel_rfl) ?_ _
          clear c47 f47
          obtain ⟨w8, hw8⟩ : ∃ w8, w7.setCell ⟨q, 4, none⟩ (.slice va7 (({ s with L := F.cutI s.L j } : F.Po).L.length + 1) vc7) = w8 := ⟨_, rfl⟩
          rw [hw8] at HP7 ⊢
          have hcv8 : (convert 37 9 (.slice ra 256 rc)).run Tryz.prog w8 = .ok (.string ⟨cs.toArray⟩) w8 := by
            obtain ⟨O8, _, hs8⟩ := HP7.out
            exact HCv.out w8 (HAt6.out.block (fun b o e hb => hs8.1.block b hb (HnO.out b o e)))
          clear hw8
          go_wp2_with fail
          go_ret2
          obtain ⟨O8, h8, hs8⟩ := HP7.out
          rw [HG.out.1, HG.out.2]
          exact HFin.out w8 O8 h8 hs8
        · have hz' : ((z : Int) != 0) = true := by simp; omega
          have HG := hid (show sG = s ∧ bG = [] by rw [HsG.out.1, HsG.out.2, if_neg hz, if_neg hz]; exact ⟨rfl, rfl⟩)
          clear hz
          go_wp2_with (first
            | (go_at_call 59; refine HOp4.out.mono ?_; rintro e w5 ⟨ra, rc, rfl, H5⟩))
          go_ret2
          rw [HG.out.1, HG.out.2]
          exact HSm.out w5 (HA4.out.trans H5.out.2.2.2) _
set_option maxRecDepth 100000 in
/-- Get, by the pool's and the disk's states. -/
theorem qget_any {w : World} {O OR : Nat → Prop} {q r : Nat} {s : F.Po} {D : dSt} {n0 : Nat} (h : IsQ w O q r s) (hO : ∀ k, O k → k < w.heap.size) (hr : IsRO w OR r D) (hk : DOk D n0) (hn0 : n0 ≤ 900) (hok : POk s D) (hg : F.Good s) (no : Int) :
    Calls Tryz.prog 24 #[Ptr q, .int .i64 no] w (PQ11 w O q r (F.getS s D no) (.tuple #[Str (F.getB s D no), .int .i64 (F.getE s D no : Int)])) := by
  obtain ⟨lv, h⟩ := h
  have hl : s.L.length ≤ 9000 := by have := hg.len; have := hok.mo2; omega
  cases hno : F.inPool s no with
  | false =>
    have e1 : F.getE s D no = 2 := by unfold F.getE; rw [hno]; rfl
    have e2 : F.getS s D no = s := by unfold F.getS; rw [e1]; rfl
    have e3 : F.getB s D no = [] := by unfold F.getB; rw [e1]; rfl
    rw [e1, e2, e3]
    exact qget_bad h no hno
  | true =>
    rcases F.idx_is s.L no with ⟨i, hi, e, hn, ha⟩ | ⟨e, ha, hall⟩
    · have e1 : F.getE s D no = 0 := by unfold F.getE; rw [hno, ha]; rfl
      have e4 : F.getF s D no = s.L[i] := by unfold F.getF; rw [ha]
      have e2 : F.getS s D no = { s with L := F.cutI s.L (i : Int) ++ [s.L[i]] } := by unfold F.getS; rw [e1, e4]; exact F.held_idx hg hi hn ha _
      have e3 : F.getB s D no = (s.L[i]).now := by unfold F.getB; rw [e1, e4]; rfl
      rw [e1, e2, e3]
      exact qget_held h hO hl no hno i hi e
    · exact qget_new h hO hr hk hn0 hok hg hl no hno ha hall e
end Go.Proofs.YtjbdchgadfhffaaGreatDoor

/- The reference's call Put. -/
namespace Go.Proofs.YtjbdchgadfhffaaGreatDoor
open Go.RowKit

theorem list_storeFr {w : World} {ops : Array Oper} {rest : List Oper} {o : Oper} {act : Act} {Q : Exit → Act → World → Prop} (hgd : o.guard = none) (x y : Operand) (ho : o.op = .store 107 x y) (b : Nat) (f : F.Fr) (old : Array Value) (hx : act.eval x = .pointer (some ⟨b, 0, none⟩)) (hy : act.eval y = .agg (fc f).toArray) (hb : w.heap[b]? = some (.cells old 107 (0, 0))) (hs : old.size = 5)
    (h : wpList Tryz.prog ops Q rest (act.put o.dst undef) (w.setRow b (fc f).toArray)) : wpList Tryz.prog ops Q (o :: rest) act w :=
  wpList_plain hgd fun _ hK => wp_store_row x y 107 ho b (fc f).toArray old 107 hx hy hb (infoFr f) (by rw [hs]; rfl) (all_oneCell_toArray (one_fc f)) (hK _ _ h)
/-- The frame that a page had, or a new one. -/
def F.had (s : F.Po) (no : Int) : F.Fr := match F.at? s.L no with
  | some f => f
  | none => ⟨no, [], [], false, false⟩
/-- What it was is kept. -/
def F.kp (f : F.Fr) : F.Fr := if f.dirty && !f.fresh then { f with was := f.now } else f
set_option maxRecDepth 100000 in
theorem had_put {s : F.Po} (hn : F.Nil s) (no : Int) (bs : List UInt8) : ({ F.kp (F.had s no) with now := F.nw bs, fresh := true } : F.Fr) = ⟨no, F.nw bs, F.wasB s no, true, F.wasD s no⟩ := by
  unfold F.had F.wasB F.wasD
  cases ha : F.at? s.L no with
  | none => rfl
  | some f =>
    have hm := F.at_mem ha
    show ({ F.kp f with now := F.nw bs, fresh := true } : F.Fr) = ⟨no, F.nw bs, if f.fresh then f.was else if f.dirty then f.now else [], true, f.dirty⟩
    have hw := hn f hm.1
    rw [← hm.2]
    unfold F.kp
    cases h1 : f.fresh <;> cases h2 : f.dirty
    · rw [h1, h2] at hw
      simp [h2, hw]
    · simp
    · simp [h2]
    · simp [h2]
set_option maxRecDepth 100000 in
set_option maxHeartbeats 2000000 in
theorem qput_bad {w : World} {O : Nat → Prop} {q r : Nat} {s : F.Po} {lv : Value} (h : QAt w O q r s lv) (no : Int) (hno : F.inPool s no = false) (a : Option Addr) (n cap : Nat) : Calls Tryz.prog 23 #[Ptr q, .int .i64 no, .slice a n cap] w (PQ11 w O q r s (.int .i64 2)) := by
  have c2 : w.cell? ⟨q, 2, none⟩ = some (.int .i64 s.ct) := cellOf h.box 2
  have HQ := hid (PQ11.same (show IsQ w O q r s from ⟨lv, h⟩) (Touch.refl _ w) (.int .i64 2))
  clear h
  have h3 : no < 0 ∨ s.ct ≤ no := by
    unfold F.inPool at hno
    simp at hno
    omega
  clear hno
  unfold Ptr at *
  by_cases h1 : no < 0
  · have d1 : decide (no < 0) = true := by simpa using h1
    go_enter Tryz.func23, Tryz.ntmps23
    go_wp2_with fail
    go_ret
    exact HQ.out
  · have d1 : decide (no < 0) = false := by simpa using h1
    have d2 : decide (s.ct ≤ no) = true := by simp; omega
    go_enter Tryz.func23, Tryz.ntmps23
    go_wp2_with fail
    go_ret
    exact HQ.out
set_option maxRecDepth 100000 in
set_option maxHeartbeats 2000000 in
theorem qput_none {w : World} {O : Nat → Prop} {q r : Nat} {s : F.Po} {lv : Value} (h : QAt w O q r s lv) (no : Int) (hno : F.inPool s no = true) (a : Option Addr) (bs : List UInt8) (n cap : Nat) (hR : M.readP bs = none) (hn : bs.length = n) (hc : n ≤ cap) (hA : At w a bs) : Calls Tryz.prog 23 #[Ptr q, .int .i64 no, .slice a n cap] w (PQ11 w O q r s (.int .i64 22)) := by
  have c2 : w.cell? ⟨q, 2, none⟩ = some (.int .i64 s.ct) := cellOf h.box 2
  have h3 : 0 ≤ no ∧ no < s.ct := by simpa [F.inPool] using hno
  have d1 : decide (no < 0) = false := by simp; omega
  have d2 : decide (s.ct ≤ no) = false := by simp; omega
  have HP := hid (rparse9_none hR a n cap w hn hc hA)
  have HQ := hid (fun w' (hA : Adds w w') => PQ11.same (show IsQ w O q r s from ⟨lv, h⟩) hA (.int .i64 22))
  clear h hno h3 hR hn hc hA
  unfold Ptr at *
  go_enter Tryz.func23, Tryz.ntmps23
  go_wp2_with (first | (go_at_call 55; refine HP.out.mono ?_; rintro e w1 ⟨va, vc, rfl, hA1⟩; have HA1 := hid hA1; clear hA1))
  go_ret
  exact HQ.out _ (HA1.out.alloc _)
set_option maxRecDepth 100000 in
set_option maxHeartbeats 2000000 in
theorem qput_stale {w : World} {O : Nat → Prop} {q r : Nat} {s : F.Po} {lv : Value} (h : QAt w O q r s lv) (no : Int) (hno : F.inPool s no = true) (a : Option Addr) (bs : List UInt8) (n cap : Nat) (p : M.Pg) (hR : M.readP bs = some p) (hp : (p.no : Int) ≠ no) (hn : bs.length = n) (hc : n ≤ cap) (hA : At w a bs) : Calls Tryz.prog 23 #[Ptr q, .int .i64 no, .slice a n cap] w (PQ11 w O q r s (.int .i64 23)) := by
  have c2 : w.cell? ⟨q, 2, none⟩ = some (.int .i64 s.ct) := cellOf h.box 2
  have h3 : 0 ≤ no ∧ no < s.ct := by simpa [F.inPool] using hno
  have d1 : decide (no < 0) = false := by simp; omega
  have d2 : decide (s.ct ≤ no) = false := by simp; omega
  have HP := hid (rparse9_some hR a n cap w hn hc hA)
  have hcn := (M.read_ok hR).1.count.1
  obtain ⟨N, hN⟩ : ∃ N, N = p.cells.length := ⟨_, rfl⟩
  rw [← hN] at HP hcn
  have hne : ((p.no : Int) != no) = true := by simpa using hp
  have HQ := hid (fun w' (hA : Adds w w') => PQ11.same (show IsQ w O q r s from ⟨lv, h⟩) hA (.int .i64 23))
  clear h hno h3 hR hn hc hA hN hp
  unfold Ptr at *
  go_enter Tryz.func23, Tryz.ntmps23
  go_wp2_with (first | (go_at_call 55; refine HP.out.mono ?_; rintro e w1 ⟨va, vc, hs, rfl, H1⟩))
  go_ret
  exact HQ.out _ (H1.out.2.2.1.alloc _)
set_option maxRecDepth 100000 in
set_option maxHeartbeats 2000000 in
theorem qput_busy {w : World} {O : Nat → Prop} {q r : Nat} {s : F.Po} {lv : Value} (h : QAt w O q r s lv) (hl : s.L.length ≤ 9000) (no : Int) (hno : F.inPool s no = true) (a : Option Addr) (bs : List UInt8) (n cap : Nat) (p : M.Pg) (hR : M.readP bs = some p) (hp : (p.no : Int) = no) (hn : bs.length = n) (hc : n ≤ cap) (hA : At w a bs) (he : F.idx s.L no = -1) (ho : F.outI s = -2) : Calls Tryz.prog 23 #[Ptr q, .int .i64 no, .slice a n cap] w (PQ11 w O q r s (.int .i64 33)) := by
  have c2 : w.cell? ⟨q, 2, none⟩ = some (.int .i64 s.ct) := cellOf h.box 2
  have h3 : 0 ≤ no ∧ no < s.ct := by simpa [F.inPool] using hno
  have d1 : decide (no < 0) = false := by simp; omega
  have d2 : decide (s.ct ≤ no) = false := by simp; omega
  have HP := hid (rparse9_some hR a n cap w hn hc hA)
  have hcn := (M.read_ok hR).1.count.1
  obtain ⟨N, hN⟩ : ∃ N, N = p.cells.length := ⟨_, rfl⟩
  rw [← hN] at HP hcn
  have hne : ((p.no : Int) != no) = false := by simpa using hp
  have HF := hid (fun w' (hA : Adds w w') => show Calls Tryz.prog 56 #[.pointer (some ⟨q, 0, none⟩), .int .i64 no] w' (Tells (.int .i64 (-1)) w') by rw [← he]; exact qfind_any (h.adds hA) no (by omega))
  have HOu := hid (fun w' (hA : Adds w w') => show Calls Tryz.prog 57 #[.pointer (some ⟨q, 0, none⟩)] w' (Adding (.int .i64 (-2)) w') by rw [← ho]; exact qout_any (h.adds hA) (by omega))
  have HQ := hid (fun w' (hA : Adds w w') => PQ11.same (show IsQ w O q r s from ⟨lv, h⟩) hA (.int .i64 33))
  clear h hno h3 hR hn hc hA hN he ho
  unfold Ptr at *
  go_enter Tryz.func23, Tryz.ntmps23
  go_upto_region 9 with (first | (go_at_call 55; refine HP.out.mono ?_; rintro e w1 ⟨va, vc, hs, rfl, H1⟩))
  have HA3 := hid (show Adds w ((w1.alloc (.cells #[.int .i64 no, .int .u8 (p.kind.toNat : Int), .slice va N vc] 96)).alloc (.cells #[.int .i64 no, .string ⟨#[]⟩, .string ⟨#[]⟩, .bool false, .bool false] 107)) from (H1.out.2.2.1.alloc _).alloc _)
  generalize (w1.alloc (.cells #[.int .i64 no, .int .u8 (p.kind.toNat : Int), .slice va N vc] 96)).alloc (.cells #[.int .i64 no, .string ⟨#[]⟩, .string ⟨#[]⟩, .bool false, .bool false] 107) = w3 at HA3 ⊢
  go_wp2_with (first
    | (go_at_call 56; refine (HF.out w3 HA3.out).mono ?_; rintro e _ ⟨rfl, hw⟩; rw [hw]; clear hw)
    | (go_at_call 57; refine (HOu.out w3 HA3.out).mono ?_; rintro e w4 ⟨rfl, hA4⟩; have HA4 := hid (HA3.out.trans hA4); clear hA4))
  go_ret
  exact HQ.out _ HA4.out
set_option maxRecDepth 100000 in
set_option maxHeartbeats 4000000 in
theorem qput_ok {w : World} {O : Nat → Prop} {q r : Nat} {s : F.Po} {lv : Value} (h : QAt w O q r s lv) (hO : ∀ k, O k → k < w.heap.size) (hl : s.L.length ≤ 9000) (no : Int) (hno : F.inPool s no = true) (a : Option Addr) (bs : List UInt8) (n cap : Nat) (p : M.Pg) (hR : M.readP bs = some p) (hp : (p.no : Int) = no) (hn : bs.length = n) (hc : n ≤ cap) (hA : At w a bs)
    (ix j : Int) (f0 : F.Fr) (hix : F.idx s.L no = ix) (hjl : j < (s.L.length : Int)) (hC : (∃ i : Nat, ∃ hi : i < s.L.length, ix = (i : Int) ∧ j = (i : Int) ∧ f0 = s.L[i]) ∨ (ix = -1 ∧ F.outI s = j ∧ j ≠ -2 ∧ f0 = ⟨no, [], [], false, false⟩)) (f2 : F.Fr) (hf2 : f2 = { F.kp f0 with now := F.nw bs, fresh := true }) :
    Calls Tryz.prog 23 #[Ptr q, .int .i64 no, .slice a n cap] w (PQ11 w O q r { s with L := F.cutI s.L j ++ [f2] } (.int .i64 0)) := by
  have c2 : w.cell? ⟨q, 2, none⟩ = some (.int .i64 s.ct) := cellOf h.box 2
  have h3 : 0 ≤ no ∧ no < s.ct := by simpa [F.inPool] using hno
  have d1 : decide (no < 0) = false := by simp; omega
  have d2 : decide (s.ct ≤ no) = false := by simp; omega
  have HP := hid (rparse9_some hR a n cap w hn hc hA)
  have hcn := (M.read_ok hR).1.count.1
  have hno31 := (M.read_ok hR).1.no
  have HNo := hid (And.intro hno31 (M.read_ok hR).1.room)
  have HNw := hid (show F.nw bs = M.pbytes p by unfold F.nw; rw [hR])
  have HLb := hid (F.nw_len hR)
  obtain ⟨N, hN⟩ : ∃ N, N = p.cells.length := ⟨_, rfl⟩
  rw [← hN] at HP hcn
  have hne : ((p.no : Int) != no) = false := by simpa using hp
  have HF := hid (fun w' (hA : Adds w w') => show Calls Tryz.prog 56 #[.pointer (some ⟨q, 0, none⟩), .int .i64 no] w' (Tells (.int .i64 ix) w') by rw [← hix]; exact qfind_any (h.adds hA) no (by omega))
  have HOu := hid (fun w' (hA : Adds w w') (ho : F.outI s = j) => show Calls Tryz.prog 57 #[.pointer (some ⟨q, 0, none⟩)] w' (Adding (.int .i64 j) w') by rw [← ho]; exact qout_any (h.adds hA) (by omega))
  have HDr := hid (fun w' (hA : Adds w w') => show Calls Tryz.prog 58 #[.pointer (some ⟨q, 0, none⟩), .int .i64 j] w' (PQ11 w' O q r { s with L := F.cutI s.L j } (.tuple #[])) from qdrop_any (h.adds hA) (by omega) j hjl)
  have HQ := hid h
  have HOO := hid hO
  have HC := hid hC
  have HLl := hid hl
  have HF2 := hid hf2
  clear h hno h3 hR hn hc hA hix hC hO hl hjl hf2 hno31 hp hN
  unfold Ptr at *
  go_enter Tryz.func23, Tryz.ntmps23
  go_upto_region 9 with (first | (go_at_call 55; refine HP.out.mono ?_; rintro e w1 ⟨va, vc, hs, rfl, H1⟩))
  obtain ⟨w3, hw3⟩ : ∃ w3, w3 = (w1.alloc (.cells #[.int .i64 (p.no : Int), .int .u8 (p.kind.toNat : Int), .slice va N vc] 96)).alloc (.cells #[.int .i64 no, .string ⟨#[]⟩, .string ⟨#[]⟩, .bool false, .bool false] 107) := ⟨_, rfl⟩
  obtain ⟨b7, hb7⟩ : ∃ b7, b7 = w1.heap.size := ⟨_, rfl⟩
  obtain ⟨b9, hb9⟩ : ∃ b9, b9 = w1.heap.size + 1 := ⟨_, rfl⟩
  have HA3 := hid (show Adds w w3 by rw [hw3]; exact (H1.out.2.2.1.alloc _).alloc _)
  have HB7 := hid (show w3.heap[b7]? = some (.cells #[.int .i64 (p.no : Int), .int .u8 (p.kind.toNat : Int), .slice va N vc] 96 (0, 0)) by rw [hw3, hb7]; exact heap_alloc2_old w1 _ _)
  have HB9 := hid (show w3.heap[b9]? = some (.cells #[.int .i64 no, .string ⟨#[]⟩, .string ⟨#[]⟩, .bool false, .bool false] 107 (0, 0)) by rw [hw3, hb9]; exact heap_alloc2_new w1 _ _)
  have HG1 := hid (show GQ w1 (fun k => w.heap.size ≤ k ∧ k < w1.heap.size) ⟨va, vc, hs⟩ from H1.out.2.1.mono (fun k hk c => ⟨c, hk⟩))
  have HZ1 := hid (And.intro (And.intro hb7 hb9) H1.out.2.2.1.size)
  have HA13 := hid (show Adds w1 w3 by rw [hw3]; exact ((Touch.refl _ w1).alloc _).alloc _)
  have HHs := hid (And.intro H1.out.1 H1.out.2.2.2)
  rw [← hw3, ← hb9, ← hb7]
  clear hw3 hb7 hb9
  go_upto_if 38 with (first
    | (go_at_call 56; refine (HF.out w3 HA3.out).mono ?_; rintro e _ ⟨rfl, hw⟩; rw [hw]; clear hw))
  go_cut [10] from 39 to 77 (fun t10 w' => t10 = .int .i64 j ∧ Hid (w'.heap[b9]? = some (.cells (fc f0).toArray 107 (0, 0)) ∧ Touch (fun k => k = b9) w3 w'))
  case first =>
    rcases HC.out with ⟨i, hi, rfl, rfl, hf0⟩ | ⟨rfl, ho, hj, hf0⟩
    · have hi0 : decide ((i : Int) < 0) = false := by simp
      have hq3 := HQ.out.adds HA3.out
      obtain ⟨ao, ca, elv, hcap, hat⟩ := hq3.at'
      obtain ⟨g, ea, hob, hcc, hfz⟩ := hat (by omega)
      subst ea
      have hrr : Hid (w3.rangeAt g (i * 5) (fc f0)) := fun j v hv => by
        have hj : j < 5 := (List.getElem?_eq_some_iff.1 hv).1
        rw [hcc i hi j hj, ← hf0]
        exact hv
      obtain ⟨sl, hsl⟩ : ∃ sl, sl = s.L.length := ⟨_, rfl⟩
      have d4 : w3.cell? ⟨q, 4, none⟩ = some (.slice (some ⟨g, 0, none⟩) sl ca) := by have c := cellOf hq3.box 4; rw [elv] at c; rw [hsl]; exact c
      have hil : i < sl := by rw [hsl]; exact hi
      have hll : sl ≤ 9000 := by rw [hsl]; exact HLl.out
      have hi53 := hid (infoFr f0)
      clear hq3 hat hcc hfz hob elv hcap hsl hf0
      go_wp2_with (first
        | (refine wpList_load_mid rfl 107 _ rfl g (i * 5) rfl (fc f0) _ hrr.out Tryz.underlying107 rfl hi53.out ?_)
        | (refine list_storeFr rfl (.tmp 9) (.tmp 49) rfl b9 f0 _ rfl rfl HB9.out rfl ?_))
      go_meet
      case rel => exact ⟨rfl, setRow_heap w3 b9 _ _ 107 (0, 0) HB9.out, (Touch.refl (fun k => k = b9) w3).setRow (fun _ => rfl) _⟩
    · have hi0 : decide ((-1 : Int) < 0) = true := by decide
      have hj2 : (j == -2) = false := by simpa using hj
      have HO2 := hid (HOu.out w3 HA3.out ho)
      go_wp2_with (first
        | (go_at_call 57; refine HO2.out.mono ?_; rintro e w4 ⟨rfl, hA4⟩; have HA4 := hid hA4; clear hA4))
      go_meet
      case rel => exact ⟨rfl, by rw [hf0]; exact HA4.out.at' HB9.out id, HA4.out.mono (fun _ _ c => c.elim)⟩
  case rest =>
    rename World => w4
    obtain ⟨rfl, H4⟩ := hcut
    have HA4 := hid (show Adds w w4 from HA3.out.then H4.out.2 (fun k hk e => by have := HZ1.out; omega))
    have h79 : b7 ≠ b9 := by have := HZ1.out.1; omega
    have HB74 := hid (H4.out.2.at' HB7.out h79)
    have HG4 := hid (show GQ w4 (fun k => w.heap.size ≤ k ∧ k < w1.heap.size) ⟨va, vc, hs⟩ from (HG1.out.adds HA13.out).touch H4.out.2 (fun k hk e => by have := HZ1.out; omega))
    have HD4 := hid (HDr.out w4 HA4.out)
    have HB94 := hid H4.out.1
    have HZ4 := hid (show b9 < w4.heap.size from (Array.getElem?_eq_some_iff.1 H4.out.1).1)
    clear h79
    go_upto_region 16 with (first | (go_at_call 58; refine HD4.out.mono ?_; rintro e w6a ⟨rfl, H6⟩))
    obtain ⟨O6, ⟨lv6, hq6⟩, hT6, hO6⟩ := H6.out
    have HQ6 := hid hq6
    have hnO : ∀ k, w.heap.size ≤ k → k < w4.heap.size → ¬ O6 k := fun k h1 h2 c => by
      rcases hO6 k c with c | c
      · have := HOO.out k c; omega
      · omega
    have hnO0 : ∀ k, w.heap.size ≤ k → ¬ O k := fun k h1 c => by have := HOO.out k c; omega
    have HnO := hid hnO
    have hz9 : w.heap.size ≤ b9 ∧ w.heap.size ≤ b7 ∧ b7 < w4.heap.size := by have := HZ1.out; have := HZ4.out; omega
    have HZ9 := hid hz9
    have HB76 := hid (hT6.at' HB74.out (hnO0 b7 hz9.2.1))
    have HB96 := hid (hT6.at' HB94.out (hnO0 b9 hz9.1))
    have HG6 := hid (show GQ w6a (fun k => w.heap.size ≤ k ∧ k < w1.heap.size) ⟨va, vc, hs⟩ from HG4.out.touch hT6 (fun k hk => hnO0 k hk.1))
    have HQs := hid (show Qs w O w6a O6 from (Qs.adds O HA4.out).trans ⟨hT6, hO6⟩)
    clear hq6 hT6 hO6 hnO hnO0 hz9
    have c4 : w6a.cell? ⟨b9, 4, none⟩ = some (.bool f0.dirty) := cellOf HB96.out 4
    have c3 : w6a.cell? ⟨b9, 3, none⟩ = some (.bool f0.fresh) := cellOf HB96.out 3
    have c22 : w6a.cell? ⟨b9, 2, none⟩ = some (.string ⟨f0.was.toArray⟩) := cellOf HB96.out 2
    have c1 : w6a.cell? ⟨b9, 1, none⟩ = some (.string ⟨f0.now.toArray⟩) := cellOf HB96.out 1
    have fz2 := frozen_of_row w6a b9 2 _ 107 HB96.out
    obtain ⟨f1, hf1⟩ : ∃ f1, f1 = F.kp f0 := ⟨_, rfl⟩
    rw [← hf1] at HF2
    have HF1 := hid hf1
    clear hf1
    go_cut [59] from 53 to 77 (fun t59 w' => t59 = .bool (f0.dirty && !f0.fresh) ∧ w' = w6a)
    case first =>
      cases hdi : f0.dirty with
      | false =>
        rw [hdi] at c4
        go_wp2_with fail
        go_meet
        case rel => exact ⟨by rw [hdi]; rfl, rfl⟩
      | true =>
        rw [hdi] at c4
        cases hfr : f0.fresh with
        | true =>
          rw [hfr] at c3
          go_wp2_with fail
          go_meet
          case rel => exact ⟨by rw [hdi, hfr]; rfl, rfl⟩
        | false =>
          rw [hfr] at c3
          go_wp2_with fail
          go_meet
          case rel => exact ⟨by rw [hdi, hfr]; rfl, rfl⟩
    case rest =>
    rename World => w6b
    obtain ⟨rfl, hw6b⟩ := hcut
    rw [hw6b]
    clear hw6b c3 c4
    go_upto_if 59 with fail
    go_cut [59] from 53 to 77 (fun _ w' => Hid (w'.heap[b9]? = some (.cells (fc f1).toArray 107 (0, 0)) ∧ Touch (fun k => k = b9) w6a w'))
    case first =>
      cases hb : (f0.dirty && !f0.fresh) with
      | false =>
        have e : f1 = f0 := by rw [HF1.out]; unfold F.kp; rw [hb]; rfl
        subst e
        go_wp2_with fail
        go_meet
        case rel => exact ⟨HB96.out, Touch.refl _ _⟩
      | true =>
        have HFc := hid (show fc f1 = [.int .i64 f0.no, Str f0.now, Str f0.now, .bool f0.fresh, .bool f0.dirty] by rw [HF1.out]; unfold F.kp; rw [hb]; rfl)
        go_wp2_with fail
        go_meet
        case rel =>
          refine ⟨?_, (Touch.refl (fun k => k = b9) w6a).setCell (p := ⟨b9, 2, none⟩) (fun _ => rfl) _⟩
          have q1 := heap_setCell_same w6a b9 2 _ 107 (.string ⟨f0.now.toArray⟩) HB96.out
          rw [q1, HFc.out]
          rfl
    case rest =>
      rename World => w7c
      have H7c := hcut
      have h79 : b7 ≠ b9 := by have := HZ1.out.1; omega
      have hb7c := H7c.out.2.at' HB76.out h79
      have c70 : w7c.cell? ⟨b7, 0, none⟩ = some (.int .i64 (p.no : Int)) := cellOf hb7c 0
      have c71 : w7c.cell? ⟨b7, 1, none⟩ = some (.int .u8 (p.kind.toNat : Int)) := cellOf hb7c 1
      have c72 : w7c.cell? ⟨b7, 2, none⟩ = some (.slice va N vc) := cellOf hb7c 2
      have HG7 := hid (show GQ w7c (fun k => w.heap.size ≤ k ∧ k < w1.heap.size) ⟨va, vc, hs⟩ from HG6.out.touch H7c.out.2 (fun k hk e => by have := HZ1.out; omega))
      have HBy := hid (show Calls Tryz.prog 46 #[.agg #[.int .i64 (p.no : Int), .int .u8 (p.kind.toNat : Int), .slice va N vc]] w7c _ from rbytes_any p.no p.kind va hs N vc HHs.out.2 w7c HG7.out HNo.out.1 (by rw [HHs.out.1]; exact HNo.out.2))
      clear hb7c h79 c1 c22 fz2
      go_upto_region 19 with (first
        | (go_at_call 46; refine HBy.out.mono ?_; rintro e w7d ⟨ra, rc, rfl, H7d⟩
           have hAt7 : At w7d ra (F.nw bs) := by
             rw [HNw.out]
             have q := row_at H7d.out.1
             rw [HHs.out.1] at q
             exact q
           have hcv : (convert 37 9 (.slice ra 256 rc)).run Tryz.prog w7d = .ok (.string ⟨(F.nw bs).toArray⟩) w7d := by
             have q := conv_at w7d ra (F.nw bs) rc hAt7
             rw [HLb.out] at q
             exact q
           have hb7d := H7d.out.2.at' H7c.out.1 id
           have HB7d := hid hb7d
           have k1 := cellOf hb7d 1
           have fk1 := frozen_of_row w7d b9 1 _ 107 hb7d
           have k3 := cellOf hb7d 3
           have fk3 := frozen_of_row w7d b9 3 _ 107 hb7d
           have KK := hid trivial
           clear hAt7 hb7d))
      have HFc2 := hid (show fc f2 = [.int .i64 f1.no, Str (F.nw bs), Str f1.was, .bool true, .bool f1.dirty] by rw [HF2.out]; rfl)
      go_upto_region 20 with fail
      obtain ⟨w8a, hw8⟩ : ∃ w8a, (w7d.setCell ⟨b9, 1, none⟩ (.string ⟨(F.nw bs).toArray⟩)).setCell ⟨b9, 3, none⟩ (.bool true) = w8a := ⟨_, rfl⟩
      have HB8 := hid (show w8a.heap[b9]? = some (.cells (fc f2).toArray 107 (0, 0)) by
        have q1 := heap_setCell_same w7d b9 1 _ 107 (.string ⟨(F.nw bs).toArray⟩) HB7d.out
        have q2 := heap_setCell_same _ b9 3 _ 107 (.bool true) q1
        rw [← hw8, q2, HFc2.out]
        rfl)
      have hT8 : Touch (fun k => k = b9) w6a w8a := by
        rw [← hw8]
        exact (((H7c.out.2.trans (H7d.out.2.mono (fun _ _ c => c.elim))).setCell (p := ⟨b9, 1, none⟩) (fun _ => rfl) _).setCell (p := ⟨b9, 3, none⟩) (fun _ => rfl) _)
      have hn9 : ¬ O6 b9 := HnO.out b9 HZ9.out.1 HZ4.out
      have HQ8 := hid (HQ6.out.touch hT8 (fun k hk e => hn9 (by rw [← e]; exact hk)))
      have HQs8 := hid (show Qs w O w8a O6 from ⟨HQs.out.1.then hT8 (fun k hk e => by have := HZ9.out.1; omega), fun k c => by
        have hz8 := hT8.size
        rcases HQs.out.2 k c with c | c
        · exact .inl c
        · exact .inr ⟨c.1, by omega⟩⟩)
      have HN9 := hid hn9
      rw [hw8]
      clear hw8 hT8 hn9 k1 fk1 k3 fk3 hcv c70 c71 c72
      have HS2 := hid (show (∀ w', Adds w8a w' → (fun w' : World => w'.heap[q]? = some (QBox r { s with L := F.cutI s.L j } lv6) ∧ w'.heap[b9]? = some (.cells (fc f2).toArray 107 (0, 0))) w') ∧ (∀ w6 w7, Adds w8a w6 → w6.grownBy w7 lv6.ownBlock → (fun w' : World => w'.heap[q]? = some (QBox r { s with L := F.cutI s.L j } lv6) ∧ w'.heap[b9]? = some (.cells (fc f2).toArray 107 (0, 0))) w7) from ⟨fun w' hA => ⟨(HQ8.out.adds hA).box, hA.at' HB8.out id⟩, fun w6 w7 hA hg => ⟨by
        have hT := (hA.mono (U := fun k => lv6.ownBlock = some k) (fun _ _ c => c.elim)).trans (grown_touch hg)
        exact hT.at' HQ8.out.box (fun c => HQ8.out.ne c rfl), by
        have hT := (hA.mono (U := fun k => lv6.ownBlock = some k) (fun _ _ c => c.elim)).trans (grown_touch hg)
        exact hT.at' HB8.out (fun c => HN9.out (HQ8.out.ol b9 c))⟩⟩)
      have HLn6 := hid (show ({ s with L := F.cutI s.L j } : F.Po).L.length + 1 ≤ 100000 by show (F.cutI s.L j).length + 1 ≤ 100000; have := F.cut_len s.L j; have := HLl.out; omega)
      refine E_begin (S := fun w' : World => w'.heap[q]? = some (QBox r { s with L := F.cutI s.L j } lv6) ∧ w'.heap[b9]? = some (.cells (fc f2).toArray 107 (0, 0))) (X := 10) (by kernel_rfl) ?_
      have hS0 : (fun w' : World => w'.heap[q]? = some (QBox r { s with L := F.cutI s.L j } lv6) ∧ w'.heap[b9]? = some (.cells (fc f2).toArray 107 (0, 0))) w8a.drew := ⟨HQ8.out.box, HB8.out⟩
      refine E_put (i := 0) 68 (v := .pointer (some ⟨q, 0, none⟩)) rfl rfl (by kernel_rfl) (by kernel_rfl) (by kernel_rfl) (by kernel_rfl) (fun _ _ _ h => h) (Or.inl ⟨by rfl, fun w' hw' => ?_⟩) hS0 ?_
      · rfl
      simp only [Act.put, List.setIfInBounds_toArray, List.set_cons_zero, List.set_cons_succ]
      refine E_put (i := 1) 69 (v := .pointer (some ⟨q, 0, none⟩)) rfl rfl (by kernel_rfl) (by kernel_rfl) (by kernel_rfl) (by kernel_rfl) (fun _ _ _ h => h) (Or.inl ⟨by rfl, fun w' hw' => ?_⟩) hS0 ?_
      · rfl
      simp only [Act.put, List.setIfInBounds_toArray, List.set_cons_zero, List.set_cons_succ]
      refine E_put (i := 2) 70 (v := .pointer (some ⟨q, 0, none⟩)) rfl rfl (by kernel_rfl) (by kernel_rfl) (by kernel_rfl) (by kernel_rfl) (fun _ _ _ h => h) (Or.inl ⟨by rfl, fun w' hw' => ?_⟩) hS0 ?_
      · go_simp
      simp only [Act.put, List.setIfInBounds_toArray, List.set_cons_zero, List.set_cons_succ]
      refine E_put (i := 3) 71 (v := .pointer (some ⟨q, 4, none⟩)) rfl rfl (by kernel_rfl) (by kernel_rfl) (by kernel_rfl) (by kernel_rfl) (fun _ _ _ h => h) (Or.inl ⟨by rfl, fun w' hw' => ?_⟩) hS0 ?_
      · go_simp
      simp only [Act.put, List.setIfInBounds_toArray, List.set_cons_zero, List.set_cons_succ]
      refine E_put (i := 4) 72 (v := lv6) rfl rfl (by kernel_rfl) (by kernel_rfl) (by kernel_rfl) (by kernel_rfl) (fun _ _ _ h => h) (Or.inl ⟨by rfl, fun w' hw' => ?_⟩) hS0 ?_
      · (have c := cellOf hw'.1 4; clear hw'; go_simp)
      simp only [Act.put, List.setIfInBounds_toArray, List.set_cons_zero, List.set_cons_succ]
      refine E_put (i := 5) 73 (v := .agg (fc f2).toArray) rfl rfl (by kernel_rfl) (by kernel_rfl) (by kernel_rfl) (by kernel_rfl) (fun _ _ _ h => h) (yieldsIf_load_mid (by rfl) 107 (.tmp 9) rfl b9 0 rfl (fc f2) _ (fun w' hw' => range_box hw'.2) Tryz.underlying107 rfl (infoFr f2)) hS0 ?_
      simp only [Act.put, List.setIfInBounds_toArray, List.set_cons_zero, List.set_cons_succ]
      obtain ⟨w6, hw6⟩ : ∃ w6, w6 = w8a.drew.alloc (.cells (fc f2).toArray 107) := ⟨_, rfl⟩
      have hA6 : Adds w8a w6 := by rw [hw6]; exact (Touch.refl _ w8a).drew.alloc _
      have hN6 : w6.heap[w8a.heap.size]? = some (.cells (fc f2).toArray 107 (0, 0)) := by rw [hw6]; exact heap_alloc_new w8a.drew _
      have HZ6 := hid (show w6.heap.size = w8a.heap.size + 1 by rw [hw6]; simp)
      have hS6 := HS2.out.1 w6 hA6
      refine E_do (i := 6) (some 74) (by kernel_rfl) rfl rfl rfl (fun K hK => ?_)
      refine wp_buildSlice 77 1 0 (.tmp 73) rfl rfl (build_fr f2 _) ?_
      rw [← hw6]
      refine hK _ _ (fun _ => hS6) ?_
      clear hK K
      simp only [Act.put, List.setIfInBounds_toArray, List.set_cons_zero, List.set_cons_succ]
      have HA6 := hid hA6
      have HN6 := hid hN6
      clear hw6 hA6 hN6 hS0
      refine E_do (i := 7) (some 75) (by kernel_rfl) rfl rfl rfl (fun K hK => ?_)
      refine wp_append_fr _ _ rfl 0 lv6 _ _ rfl (HQ8.out.adds HA6.out).row ⟨w8a.heap.size, 0, none⟩ 1 1 [f2] rfl rfl (box_cells HN6.out) HLn6.out (Nat.zero_le _) ?_
      intro v7 w7 hr7 hg7 ha7
      obtain ⟨hb7, hp7⟩ := q_pushed HQ8.out HA6.out hr7 hg7 ha7
      have hS7 := HS2.out.2 w6 w7 HA6.out hg7
      obtain ⟨va7, vc7, ev7⟩ := row_form hr7
      subst ev7
      refine hK _ _ (fun _ => hS7) ?_
      clear hK K
      simp only [Act.put, List.setIfInBounds_toArray, List.set_cons_zero, List.set_cons_succ]
      have HP7 := hid hp7
      have HG7 := hid hg7
      have c47 := cellOf hb7 4
      have f47 := frozen_of_row w7 q 4 _ 79 hb7
      clear hr7 hg7 ha7 hp7 hb7
      refine E_do (i := 8) (some 76) (by kernel_rfl) rfl rfl rfl (fun K hK => ?_)
      go_simp
      refine hK (.pointer (some ⟨q, 0, none⟩)) _ (fun _ => hS7) ?_
      clear hK K
      simp only [Act.put, List.setIfInBounds_toArray, List.set_cons_zero, List.set_cons_succ]
      refine E_do (i := 9) (some 77) (by kernel_rfl) rfl rfl rfl (fun K hK => ?_)
      go_simp
      refine hK (.pointer (some ⟨q, 4, none⟩)) _ (fun _ => hS7) ?_
      clear hK K
      simp only [Act.put, List.setIfInBounds_toArray, List.set_cons_zero, List.set_cons_succ]
      refine E_do (i := 10) none (by kernel_rfl) rfl rfl rfl (fun K hK => ?_)
      go_simp
      refine hK undef _ (fun h => absurd rfl h) ?_
      clear hK K hS7
      simp only [Act.put]
      refine E_done (by kernel_rfl) ?_ _
      clear c47 f47
      go_wp2_with fail
      go_ret
      obtain ⟨O8, h8, hs8⟩ := HP7.out
      exact PQ11.of h8 (HQs8.out.trans hs8)
set_option maxRecDepth 100000 in
/-- Put, by the pool's state. -/
theorem qput_any {w : World} {O : Nat → Prop} {q r : Nat} {s : F.Po} (h : IsQ w O q r s) (hO : ∀ k, O k → k < w.heap.size) (hg : F.Good s) (hmo : s.mo ≤ 256) (hn : F.Nil s) (no : Int) (a : Option Addr) (bs : List UInt8) (m cap : Nat) (hm : bs.length = m) (hc : m ≤ cap) (hA : At w a bs) :
    Calls Tryz.prog 23 #[Ptr q, .int .i64 no, .slice a m cap] w (PQ11 w O q r (F.putS s no bs) (.int .i64 (F.putE s no bs : Int))) := by
  obtain ⟨lv, h⟩ := h
  have hl : s.L.length ≤ 9000 := by have := hg.len; omega
  have hS : F.putE s no bs ≠ 0 → F.putS s no bs = s := fun e => by unfold F.putS; rw [if_neg e]
  cases hno : F.inPool s no with
  | false =>
    have e1 : F.putE s no bs = 2 := by unfold F.putE; rw [hno]; rfl
    rw [hS (by rw [e1]; decide), e1]
    exact qput_bad h no hno a m cap
  | true =>
    cases hR : M.readP bs with
    | none =>
      have e1 : F.putE s no bs = 22 := by unfold F.putE; rw [hno, hR]; rfl
      rw [hS (by rw [e1]; decide), e1]
      exact qput_none h no hno a bs m cap hR hm hc hA
    | some p =>
      by_cases hp : (p.no : Int) = no
      · rcases F.idx_is s.L no with ⟨i, hi, e, hin, ha⟩ | ⟨e, ha, hall⟩
        · have hr := (need_at ha).2
          have e1 : F.putE s no bs = 0 := by unfold F.putE; rw [hno, hR]; simp [hp, hr]
          have e2 : F.putS s no bs = { s with L := F.cutI s.L (i : Int) ++ [{ F.kp (F.had s no) with now := F.nw bs, fresh := true }] } := by
            unfold F.putS
            rw [if_pos e1, ← had_put hn no bs]
            exact F.held_idx hg hi hin ha _
          rw [e1, e2]
          exact qput_ok h hO hl no hno a bs m cap p hR hp hm hc hA (i : Int) (i : Int) (F.had s no) e (by omega) (.inl ⟨i, hi, rfl, rfl, by unfold F.had; rw [ha]⟩) _ rfl
        · rcases F.out_is hg ha hall with ⟨o1, o2⟩ | ⟨j, o1, o2, o3, o4, o5⟩
          · have e1 : F.putE s no bs = 33 := by unfold F.putE; rw [hno, hR]; simp [hp, o2]
            rw [hS (by rw [e1]; decide), e1]
            exact qput_busy h hl no hno a bs m cap p hR hp hm hc hA e o1
          · have e1 : F.putE s no bs = 0 := by unfold F.putE; rw [hno, hR]; simp [hp, o4]
            have e2 : F.putS s no bs = { s with L := F.cutI s.L j ++ [{ F.kp (F.had s no) with now := F.nw bs, fresh := true }] } := by
              unfold F.putS
              rw [if_pos e1, ← had_put hn no bs]
              exact o5 _
            rw [e1, e2]
            exact qput_ok h hO hl no hno a bs m cap p hR hp hm hc hA (-1) j (F.had s no) e o3 (.inr ⟨rfl, o1, o2, by unfold F.had; rw [ha]⟩) _ rfl
      · have e1 : F.putE s no bs = 23 := by unfold F.putE; rw [hno, hR]; simp [hp]
        rw [hS (by rw [e1]; decide), e1]
        exact qput_stale h no hno a bs m cap p hR hp hm hc hA
end Go.Proofs.YtjbdchgadfhffaaGreatDoor
