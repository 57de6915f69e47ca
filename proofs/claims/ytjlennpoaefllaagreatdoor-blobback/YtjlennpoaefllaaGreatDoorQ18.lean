/- A range over a map of pointers: which entries are still to come, whatever the order. -/
import Derived.Test.YtjlennpoaefllaaGreatDoorQ17
import Derived.Maps.RangeWalk
namespace Go.Proofs.YtjlennpoaefllaaGreatDoor
open Go.RowKit

set_option maxRecDepth 100000 in
theorem filter_born {x : MapEntry} : ∀ {l : List MapEntry}, (l.map (·.born)).Nodup → x ∈ l → l.Perm (x :: l.filter (fun y => !(y.born == x.born)))
  | [], _, hx => by cases hx
  | a :: l, hn, hx => by
    obtain ⟨h1, h2⟩ := List.nodup_cons.1 hn
    rcases List.mem_cons.1 hx with rfl | hx
    · have : l.filter (fun y => !(y.born == x.born)) = l := by
        rw [List.filter_eq_self]
        intro y hy
        have : y.born ≠ x.born := fun e => h1 (List.mem_map.2 ⟨y, hy, e⟩)
        simp [this]
      rw [List.filter_cons]
      simp [this]
    · have hne : a.born ≠ x.born := fun e => h1 (List.mem_map.2 ⟨x, hx, e.symm⟩)
      rw [List.filter_cons]
      simp only [hne, Bool.not_eq_true', beq_eq_false_iff_ne, ne_eq, not_false_eq_true, if_true]
      exact (List.Perm.cons a (filter_born h2 hx)).trans (List.Perm.swap x a _)

/-- A range under way: block r is an iterator over the map hb, which says l; todo is still to come. -/
def Rg (w : World) (hb r : Nat) (l todo : List (Int × Nat)) : Prop := ∃ es clock since seen c0, w.heap[hb]? = some (.map es clock) ∧ MapP es clock l ∧ w.heap[r]? = some (.mapIter (some hb) since seen c0) ∧
  (∀ x ∈ es.toList, x.born < since) ∧ since ≤ c0 ∧ since ≤ clock ∧ ((leftOf es seen).toList.map kv).Perm (todo.map pv)
set_option maxRecDepth 100000 in
theorem Rg.mp {w : World} {hb r : Nat} {l todo : List (Int × Nat)} (h : Rg w hb r l todo) : MP w hb l := by
  obtain ⟨es, clock, _, _, _, h1, h2, _⟩ := h
  exact ⟨es, clock, h1, h2⟩
set_option maxRecDepth 100000 in
theorem Rg.lt {w : World} {hb r : Nat} {l todo : List (Int × Nat)} (h : Rg w hb r l todo) : r < w.heap.size := by
  obtain ⟨es, clock, _, _, _, _, _, h3, _⟩ := h
  exact (Array.getElem?_eq_some_iff.1 h3).1
set_option maxRecDepth 100000 in
theorem Rg.ne {w : World} {hb r : Nat} {l todo : List (Int × Nat)} (h : Rg w hb r l todo) : r ≠ hb := by
  obtain ⟨es, clock, _, _, _, h1, _, h3, _⟩ := h
  intro e
  rw [e, h1] at h3
  cases h3
set_option maxRecDepth 100000 in
theorem Rg.touch {w w' : World} {T : Nat → Prop} {hb r : Nat} {l todo : List (Int × Nat)} (h : Rg w hb r l todo) (hT : Touch T w w') (h1 : ¬ T hb) (h2 : ¬ T r) : Rg w' hb r l todo := by
  have a1 := h.mp.lt
  have a2 := h.lt
  obtain ⟨es, clock, since, seen, c0, q1, q2, q3, rest⟩ := h
  exact ⟨es, clock, since, seen, c0, (hT.block hb a1 h1).trans q1, q2, (hT.block r a2 h2).trans q3, rest⟩
set_option maxRecDepth 100000 in
/-- How many are still to come, read off the world. -/
theorem Rg.left {w : World} {hb r : Nat} {l todo : List (Int × Nat)} (h : Rg w hb r l todo) : w.rangeLeft hb r = todo.length := by
  obtain ⟨es, clock, since, seen, c0, q1, _, q3, _, _, _, q7⟩ := h
  have := q7.length_eq
  simp only [World.rangeLeft, q1, q3]
  simpa using this

section
variable {P : Program} {w : World} {ops : Array Oper} {rest : List Oper} {o : Oper} {a : Act} {Q : Exit → Act → World → Prop} {l todo : List (Int × Nat)}
set_option maxRecDepth 100000 in
/-- 'range m' at the operation. -/
theorem wpList_range_p (hg : o.guard = none) (m : Operand) (t : TypeId) (hop : o.op = Op.range t m) (kt e : TypeId) (ht : P.underlying t = some (.map kt e)) (r : Nat) (hm : a.eval m = .map (some r)) (hr : MP w r l)
    (hK : ∀ w', Rg w' r w.heap.size l l → Adds w w' → w'.heap.size = w.heap.size + 1 → wpList P ops Q rest (a.put o.dst (.pointer (some ⟨w.heap.size, 0, none⟩))) w') : wpList P ops Q (o :: rest) a w := by
  have hlt := hr.lt
  obtain ⟨es, clock, hb, hmp⟩ := hr
  refine wpList_plain hg fun K' hK' => ?_
  have hrun := run_range_map (P := P) w t kt e r es clock ht hb
  unfold Oper.wp
  simp [execOp, hop, hm, hrun, Result.andThen]
  refine hK' _ _ (hK _ ⟨es, clock, clock, #[], clock, ((MapKept.heap_alloc w _).2 r hlt).trans hb, hmp, (MapKept.heap_alloc w _).1, hmp.stamped.1, Nat.le_refl _, Nat.le_refl _, ?_⟩ ((Touch.refl _ w).alloc _) (by simp))
  have : (leftOf es #[]).toList = es.toList := by simp [leftOf]
  rw [this]
  exact hmp.says
set_option maxRecDepth 100000 in
/-- The step at the operation. -/
theorem wpList_next_p (hg : o.guard = none) (it : Operand) (hop : o.op = Op.next it false) (hb r : Nat) (hit : a.eval it = .pointer (some ⟨r, 0, none⟩)) (h : Rg w hb r l todo)
    (hDone : todo = [] → wpList P ops Q rest (a.put o.dst (.tuple #[.bool false])) w)
    (hMore : ∀ (t : Int × Nat) (todo' : List (Int × Nat)) (w' : World), todo.Perm (t :: todo') → t ∈ l → Rg w' hb r l todo' → Touch (fun k => k = r) w w' → w'.heap.size = w.heap.size →
      (Instr.entry (.pointer (some ⟨r, 0, none⟩))).run P w' = .ok (.tuple #[.int .i64 t.1, .pointer (some ⟨t.2, 0, none⟩)]) w' → wpList P ops Q rest (a.put o.dst (.tuple #[.bool true, .int .i64 t.1, .pointer (some ⟨t.2, 0, none⟩)])) w') :
    wpList P ops Q (o :: rest) a w := by
  have hne := h.ne
  obtain ⟨es, clock, since, seen, c0, q1, q2, q3, q4, q5, q6, q7⟩ := h
  refine wpList_plain hg fun K' hK' => ?_
  unfold Oper.wp
  rcases run_next_at (P := P) w o.type r hb since c0 seen es clock q3 q1 q4 q5 with ⟨h0, hrun⟩ | ⟨x, hx, w1, hal, hrun⟩
  · simp [execOp, hop, hit, hrun, Result.andThen]
    refine hK' _ _ (hDone ?_)
    have := q7.length_eq
    simp [h0] at this
    exact List.eq_nil_of_length_eq_zero this.symm
  · have hmem : x ∈ es.toList ∧ seen.contains x.born = false := by
      have := hx
      simp only [leftOf, Array.toList_filter, List.mem_filter] at this
      simpa using this
    obtain ⟨t, htl, ex⟩ := q2.mem hmem.1
    have hk : x.key = .int .i64 t.1 := congrArg Prod.fst ex
    have hv : x.val = .pointer (some ⟨t.2, 0, none⟩) := congrArg Prod.snd ex
    have hnd : (es.toList.map (·.born)).Nodup := q2.stamped.2.1
    have hr1 : w1.heap[r]? = some (.mapIter (some hb) since seen c0) := by rcases hal with rfl | rfl <;> exact q3
    have hb1 : w1.heap[hb]? = some (.map es clock) := by rcases hal with rfl | rfl <;> exact q1
    have hset := MapKept.heap_set (o' := .mapIter (some hb) since (seen.push x.born) clock) hr1
    have hb' := (hset.2 hb (fun e1 => hne e1.symm)).trans hb1
    have hnd2 : ((leftOf es seen).toList.map (·.born)).Nodup := by
      simp only [leftOf, Array.toList_filter]
      exact hnd.sublist (List.filter_sublist.map _)
    have hp := filter_born hnd2 hx
    have e1 : (leftOf es (seen.push x.born)).toList = (leftOf es seen).toList.filter (fun y => !(y.born == x.born)) := by
      simp only [leftOf, Array.toList_filter, List.filter_filter]
      refine List.filter_congr (fun y _ => ?_)
      simp only [Array.contains_push]
      cases seen.contains y.born <;> cases hq : (y.born == x.born) <;> simp
    rw [← e1] at hp
    have hmt : t ∈ todo := by
      have := q7.mem_iff.1 (List.mem_map.2 ⟨x, hx, rfl⟩)
      obtain ⟨s, hs, es'⟩ := List.mem_map.1 this
      have : s = t := pv_inj (es'.trans ex)
      exact this ▸ hs
    obtain ⟨todo', hto⟩ : ∃ todo', todo.Perm (t :: todo') := by
      obtain ⟨i, hi, rfl⟩ := List.mem_iff_getElem.1 hmt
      refine ⟨todo.take i ++ todo.drop (i + 1), ?_⟩
      have e2 : todo = todo.take i ++ todo[i] :: todo.drop (i + 1) := by rw [← List.drop_eq_getElem_cons hi, List.take_append_drop]
      conv => lhs; rw [e2]
      exact List.perm_middle
    have hp2 : (kv x :: (leftOf es (seen.push x.born)).toList.map kv).Perm (pv t :: todo'.map pv) := ((hp.map kv).symm.trans q7).trans (hto.map pv)
    rw [ex] at hp2
    have hT : Touch (fun k => k = r) w w1 := by
      rcases hal with rfl | rfl
      · exact Touch.refl _ _
      · exact (Touch.refl _ _).drew
    have hT2 : Touch (fun k => k = r) w (ChangeMaps.setBlock w1 r (.mapIter (some hb) since (seen.push x.born) clock)) :=
      hT.trans ⟨rfl, rfl, rfl, by simp [ChangeMaps.setBlock], fun k _ hk => hset.2 k hk⟩
    have hen := run_entry_at (P := P) (ChangeMaps.setBlock w1 r (.mapIter (some hb) since (seen.push x.born) clock)) r hb since seen es clock x hset.1 hb' hmem.1 hnd
    rw [hk, hv] at hrun hen
    simp [execOp, hop, hit, hrun, Result.andThen]
    refine hK' _ _ (hMore t todo' _ hto htl ⟨es, clock, since, seen.push x.born, clock, hb', q2, hset.1, q4, q6, q6, List.Perm.cons_inv hp2⟩ hT2 ?_ hen)
    rcases hal with rfl | rfl <;> simp [ChangeMaps.setBlock]
end
end Go.Proofs.YtjlennpoaefllaaGreatDoor
