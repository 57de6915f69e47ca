/- A map from numbers to pointers: what its entries say, whatever their order; look-ups, stores, deletes, its length, and a range over it. -/
import Derived.Test.YtjlennpoaefllaaGreatDoorQ13
import Derived.Maps.RangeRun
namespace Go.Proofs.YtjlennpoaefllaaGreatDoor
open Go.RowKit

/-- An entry as key and value. -/
def kv (x : MapEntry) : Value × Value := (x.key, x.val)
/-- A number and a block, as key and value. -/
def pv (t : Int × Nat) : Value × Value := (.int .i64 t.1, .pointer (some ⟨t.2, 0, none⟩))
set_option maxRecDepth 100000 in
theorem pv_inj {s t : Int × Nat} (h : pv s = pv t) : s = t := by
  simp only [pv, Prod.mk.injEq, Value.int.injEq, true_and, Value.pointer.injEq, Option.some.injEq, Addr.mk.injEq, and_true] at h
  exact Prod.ext h.1 h.2

/-- What a map's entries say. -/
structure MapP (es : Array MapEntry) (clock : Nat) (l : List (Int × Nat)) : Prop where
  stamped : MapKept.Stamped es clock
  says : (es.toList.map kv).Perm (l.map pv)
theorem MapP.perm {es : Array MapEntry} {clock : Nat} {l l' : List (Int × Nat)} (h : MapP es clock l) (hp : l.Perm l') : MapP es clock l' := ⟨h.stamped, h.says.trans (hp.map pv)⟩
theorem MapP.nil : MapP #[] 0 [] := ⟨MapKept.stamped_empty 0, by simp⟩
set_option maxRecDepth 100000 in
theorem MapP.len {es : Array MapEntry} {clock : Nat} {l : List (Int × Nat)} (h : MapP es clock l) : es.size = l.length := by
  have := h.says.length_eq
  simpa using this
set_option maxRecDepth 100000 in
theorem MapP.mem {es : Array MapEntry} {clock : Nat} {l : List (Int × Nat)} (h : MapP es clock l) {x : MapEntry} (hx : x ∈ es.toList) : ∃ t ∈ l, kv x = pv t := by
  have := h.says.mem_iff.1 (List.mem_map.2 ⟨x, hx, rfl⟩)
  obtain ⟨t, ht, e⟩ := List.mem_map.1 this
  exact ⟨t, ht, e.symm⟩
set_option maxRecDepth 100000 in
theorem MapP.mem' {es : Array MapEntry} {clock : Nat} {l : List (Int × Nat)} (h : MapP es clock l) {t : Int × Nat} (ht : t ∈ l) : ∃ x ∈ es.toList, kv x = pv t := by
  have := h.says.mem_iff.2 (List.mem_map.2 ⟨t, ht, rfl⟩)
  obtain ⟨x, hx, e⟩ := List.mem_map.1 this
  exact ⟨x, hx, e⟩
set_option maxRecDepth 100000 in
theorem MapP.key {es : Array MapEntry} {clock : Nat} {l : List (Int × Nat)} (h : MapP es clock l) : ∀ x ∈ es.toList, MapKept.IsKey (.int .i64) x.key := by
  intro x hx
  obtain ⟨t, _, e⟩ := h.mem hx
  have : x.key = .int .i64 t.1 := congrArg Prod.fst e
  rw [this]
  rfl
set_option maxRecDepth 100000 in
/-- No number stands twice. -/
theorem MapP.once {es : Array MapEntry} {clock : Nat} {l : List (Int × Nat)} (h : MapP es clock l) : (l.map (·.1)).Nodup := by
  have hs := ((MapKept.stamped_iff es clock).1 h.stamped).2.2
  have h1 : ((es.toList.map kv).map (·.1)).Nodup := by
    rw [List.map_map, List.nodup_iff_pairwise_ne, List.pairwise_map]
    exact hs
  have h2 : ((l.map pv).map (·.1)).Nodup := (h.says.map (·.1)).nodup_iff.1 h1
  rw [List.map_map] at h2
  rw [List.nodup_iff_pairwise_ne, List.pairwise_map] at h2 ⊢
  exact h2.imp (fun hne e => hne (by simp only [Function.comp, pv]; rw [e]))

/-- The pointer at a number: none, where there is no entry. -/
def lk (l : List (Int × Nat)) (k : Int) : Value := .pointer ((l.find? (fun t => decide (t.1 = k))).map fun t => ⟨t.2, 0, none⟩)
/-- Without the entry at a number. -/
def sans (l : List (Int × Nat)) (k : Int) : List (Int × Nat) := l.filter (fun t => decide (t.1 ≠ k))
set_option maxRecDepth 100000 in
theorem lk_none {l : List (Int × Nat)} {k : Int} (h : ∀ t ∈ l, t.1 ≠ k) : lk l k = .pointer none := by
  unfold lk
  rw [List.find?_eq_none.2 (fun t ht => by simp [h t ht])]
  rfl
set_option maxRecDepth 100000 in
theorem lk_some {l : List (Int × Nat)} {t : Int × Nat} (hn : (l.map (·.1)).Nodup) (h : t ∈ l) : lk l t.1 = .pointer (some ⟨t.2, 0, none⟩) := by
  unfold lk
  cases hf : l.find? (fun s => decide (s.1 = t.1)) with
  | none => exact absurd (List.find?_eq_none.1 hf t h) (by simp)
  | some s =>
    have h1 : s.1 = t.1 := by simpa using List.find?_some hf
    have h2 := List.mem_of_find?_eq_some hf
    obtain rfl : s = t := by
      rw [List.nodup_iff_pairwise_ne, List.pairwise_map] at hn
      refine Classical.byContradiction fun hne => ?_
      · obtain ⟨i, hi, rfl⟩ := List.mem_iff_getElem.1 h2
        obtain ⟨j, hj, rfl⟩ := List.mem_iff_getElem.1 h
        have hij : i ≠ j := fun e => hne (by subst e; rfl)
        rcases Nat.lt_or_gt_of_ne hij with q | q
        · exact (List.pairwise_iff_getElem.1 hn i j hi hj q) h1
        · exact (List.pairwise_iff_getElem.1 hn j i hj hi q) h1.symm
    rfl
set_option maxRecDepth 100000 in
theorem sans_none {l : List (Int × Nat)} {k : Int} (h : ∀ t ∈ l, t.1 ≠ k) : sans l k = l := by
  unfold sans
  rw [List.filter_eq_self]
  intro t ht
  simp [h t ht]
section
variable {P : Program} {w : World} {t kt e : TypeId} {r clock : Nat} {es : Array MapEntry} {l : List (Int × Nat)}

set_option maxRecDepth 100000 in
theorem run_lookup_p (ht : P.underlying t = some (.map kt e)) (hk : P.underlying kt = some (.int .i64)) (hz : (zeroValue e).run P w = .ok (.pointer none) w)
    (hb : w.heap[r]? = some (.map es clock)) (hm : MapP es clock l) (k : Int) :
    (Instr.lookup t (.map (some r)) (.int .i64 k) false).run P w = .ok (lk l k) w := by
  have hkey : MapKept.IsKey (.int .i64) (.int .i64 k) := rfl
  have hc := fun b => MapKept.run_checkKey (w := w) hk hkey b 9999
  rcases MapKept.findNow_spec hkey es.toList 0 hm.key with ⟨h1, h2⟩ | ⟨j, x, h1, h2, h3⟩
  · have hf := MapKept.run_findKey (w := w) hk h1
    have hn : lk l k = .pointer none := lk_none (fun s hs e => by
      obtain ⟨x, hx, ex⟩ := hm.mem' hs
      exact h2 x hx (by have := congrArg Prod.fst ex; simpa [kv, pv, e] using this))
    rw [hn]
    simp [Instr.lookup, run_underlying ht, MapKept.run_getObj_map hb, hc, hf, Result.andThen, hz]
  · have hf := MapKept.run_findKey (w := w) hk h1
    obtain ⟨s, hs, ex⟩ := hm.mem (List.mem_of_getElem? h2)
    have hsk : s.1 = k := by have := congrArg Prod.fst ex; simpa [kv, pv, h3] using this.symm
    have hv : x.val = .pointer (some ⟨s.2, 0, none⟩) := congrArg Prod.snd ex
    have hl : lk l k = .pointer (some ⟨s.2, 0, none⟩) := by rw [← hsk]; exact lk_some hm.once hs
    rw [hl]
    simp [Instr.lookup, run_underlying ht, MapKept.run_getObj_map hb, hc, hf, Result.andThen, hv]

set_option maxRecDepth 100000 in
theorem MapP.split (hm : MapP es clock l) {j : Nat} {x : MapEntry} (h2 : es.toList[j]? = some x) {k : Int} (h3 : x.key = .int .i64 k) :
    ((es.toList.take j ++ es.toList.drop (j + 1)).map kv).Perm ((sans l k).map pv) ∧ ∃ s ∈ l, s.1 = k := by
  obtain ⟨s, hs, ex⟩ := hm.mem (List.mem_of_getElem? h2)
  have hsk : s.1 = k := by have := congrArg Prod.fst ex; simpa [kv, pv, h3] using this.symm
  refine ⟨?_, s, hs, hsk⟩
  have hsplit := split_at h2
  have h4 : (x :: (es.toList.take j ++ es.toList.drop (j + 1))).Perm es.toList := by
    conv => rhs; rw [hsplit]
    exact List.perm_middle.symm
  have h5 : (kv x :: (es.toList.take j ++ es.toList.drop (j + 1)).map kv).Perm (l.map pv) := (h4.map kv).trans hm.says
  have h6 : l.Perm (s :: sans l k) := by
    obtain ⟨i, hi, rfl⟩ := List.mem_iff_getElem.1 hs
    have hn := hm.once
    have e1 : l = l.take i ++ l[i] :: l.drop (i + 1) := by rw [← List.drop_eq_getElem_cons hi, List.take_append_drop]
    have e2 : sans l k = l.take i ++ l.drop (i + 1) := by
      rw [e1] at hn
      simp only [List.map_append, List.map_cons] at hn
      have hn' := List.nodup_append.1 hn
      have hn2 := List.nodup_cons.1 hn'.2.1
      unfold sans
      conv => lhs; rw [e1]
      rw [List.filter_append, List.filter_cons]
      rw [List.filter_eq_self.2, List.filter_eq_self.2]
      · simp [hsk]
      · intro t ht
        have : t.1 ≠ k := fun e => hn2.1 (by rw [hsk, ← e]; exact List.mem_map_of_mem ht)
        simp [this]
      · intro t ht
        have : t.1 ≠ k := fun e => hn'.2.2 _ (List.mem_map_of_mem (f := fun z : Int × Nat => z.1) ht) _ (List.mem_cons_self) (by rw [hsk]; exact e)
        simp [this]
    rw [e2]
    conv => lhs; rw [e1]
    exact List.perm_middle
  have h7 : (kv x :: (es.toList.take j ++ es.toList.drop (j + 1)).map kv).Perm (pv s :: (sans l k).map pv) := h5.trans (by simpa using h6.map pv)
  rw [ex] at h7
  exact List.Perm.cons_inv h7

set_option maxRecDepth 100000 in
theorem run_mapUpdate_p (ht : P.underlying t = some (.map kt e)) (hk : P.underlying kt = some (.int .i64))
    (hb : w.heap[r]? = some (.map es clock)) (hm : MapP es clock l) (k : Int) (f : Nat) :
    ∃ es' clock', (Instr.mapUpdate t (.map (some r)) (.int .i64 k) (.pointer (some ⟨f, 0, none⟩))).run P w = .ok () (World.put w r (.map es' clock')) ∧ MapP es' clock' (sans l k ++ [(k, f)]) := by
  have hkey : MapKept.IsKey (.int .i64) (.int .i64 k) := rfl
  have hc := fun b => MapKept.run_checkKey (w := w) hk hkey b 9999
  rcases MapKept.findNow_spec hkey es.toList 0 hm.key with ⟨h1, h2⟩ | ⟨j, x, h1, h2, h3⟩
  · have hf := MapKept.run_findKey (w := w) hk h1
    refine ⟨es.push { key := .int .i64 k, val := .pointer (some ⟨f, 0, none⟩), born := clock }, clock + 1, ?_, MapKept.stamped_push hm.stamped h2, ?_⟩
    · simp [Instr.mapUpdate, run_underlying ht, MapKept.run_getObj_map hb, hc, hf, Result.andThen, MapKept.run_setObj_map _ hb, World.put]
    · have hn : sans l k = l := sans_none (fun s hs e => by
        obtain ⟨x, hx, ex⟩ := hm.mem' hs
        exact h2 x hx (by have := congrArg Prod.fst ex; simpa [kv, pv, e] using this))
      rw [hn, Array.toList_push, List.map_append, List.map_append]
      exact hm.says.append (List.Perm.refl _)
  · have hf := MapKept.run_findKey (w := w) hk h1
    have h2' : es[j]? = some x := by simpa using h2
    have hst := MapKept.run_keyThatStays (P := P) (w := w) hkey
    refine ⟨es.modify j fun y => { y with key := .int .i64 k, val := .pointer (some ⟨f, 0, none⟩) }, clock, ?_, MapKept.stamped_modify hm.stamped j _ (fun _ _ => rfl) (fun e' _ he' => ?_), ?_⟩
    · simp [Instr.mapUpdate, run_underlying ht, MapKept.run_getObj_map hb, hc, hf, Result.andThen, MapKept.run_setObj_map _ hb, World.put, h2', h3, hst]
    · rw [h2'] at he'
      cases he'
      exact h3.symm
    · obtain ⟨hj, hx⟩ := List.getElem?_eq_some_iff.1 h2
      rw [Array.toList_modify, List.modify_eq_take_cons_drop hj, hx]
      have h4 := (hm.split h2 h3).1
      have h5 : (List.take j es.toList ++ { key := .int .i64 k, val := .pointer (some ⟨f, 0, none⟩), born := x.born } :: List.drop (j + 1) es.toList).Perm ({ key := .int .i64 k, val := .pointer (some ⟨f, 0, none⟩), born := x.born } :: (List.take j es.toList ++ List.drop (j + 1) es.toList)) := List.perm_middle
      have h6 : (kv { key := .int .i64 k, val := .pointer (some ⟨f, 0, none⟩), born := x.born } :: (List.take j es.toList ++ List.drop (j + 1) es.toList).map kv).Perm (pv (k, f) :: (sans l k).map pv) := List.Perm.cons _ h4
      have h7 : (pv (k, f) :: (sans l k).map pv).Perm ((sans l k ++ [(k, f)]).map pv) := by
        rw [List.map_append]
        exact List.perm_append_comm (l₁ := [pv (k, f)]) (l₂ := (sans l k).map pv)
      exact (h5.map kv).trans (h6.trans h7)

set_option maxRecDepth 100000 in
theorem run_delete_p (ht : P.underlying t = some (.map kt e)) (hk : P.underlying kt = some (.int .i64))
    (hb : w.heap[r]? = some (.map es clock)) (hm : MapP es clock l) (k : Int) (ty : TypeId) :
    ∃ es' clock', (Builtin.delete_ #[t, kt] ty #[.map (some r), .int .i64 k]).run P w = .ok (.tuple #[]) (World.put w r (.map es' clock')) ∧ MapP es' clock' (sans l k) := by
  have hkey : MapKept.IsKey (.int .i64) (.int .i64 k) := rfl
  have hc := fun b => MapKept.run_checkKey (w := w) hk hkey b 9999
  rcases MapKept.findNow_spec hkey es.toList 0 hm.key with ⟨h1, h2⟩ | ⟨j, x, h1, h2, h3⟩
  · have hf := MapKept.run_findKey (w := w) hk h1
    have hn : sans l k = l := sans_none (fun s hs e => by
      obtain ⟨x, hx, ex⟩ := hm.mem' hs
      exact h2 x hx (by have := congrArg Prod.fst ex; simpa [kv, pv, e] using this))
    refine ⟨es, clock, ?_, by rw [hn]; exact hm⟩
    simp [Builtin.delete_, run_underlying ht, MapKept.run_getObj_map hb, hc, hf, Result.andThen, MapKept.run_setObj_map _ hb, World.put]
  · have hf := MapKept.run_findKey (w := w) hk h1
    refine ⟨es.eraseIdxIfInBounds j, clock, ?_, MapKept.stamped_erase hm.stamped j, ?_⟩
    · simp [Builtin.delete_, run_underlying ht, MapKept.run_getObj_map hb, hc, hf, Result.andThen, MapKept.run_setObj_map _ hb, World.put]
    · have hl : (es.eraseIdxIfInBounds j).toList = es.toList.take j ++ es.toList.drop (j + 1) := by
        have hj := (List.getElem?_eq_some_iff.1 h2).1
        simp only [Array.length_toList] at hj
        simp [Array.eraseIdxIfInBounds, hj, List.eraseIdx_eq_take_drop_succ]
      rw [hl]
      exact (hm.split h2 h3).1
end

/-- Block r is a map that says l. -/
def MP (w : World) (r : Nat) (l : List (Int × Nat)) : Prop := ∃ es clock, w.heap[r]? = some (.map es clock) ∧ MapP es clock l
set_option maxRecDepth 100000 in
theorem MP.once {w : World} {r : Nat} {l : List (Int × Nat)} (h : MP w r l) : (l.map (·.1)).Nodup := by obtain ⟨es, clock, _, h⟩ := h; exact h.once
set_option maxRecDepth 100000 in
theorem MP.perm {w : World} {r : Nat} {l l' : List (Int × Nat)} (h : MP w r l) (hp : l.Perm l') : MP w r l' := by obtain ⟨es, clock, hb, h⟩ := h; exact ⟨es, clock, hb, h.perm hp⟩
set_option maxRecDepth 100000 in
theorem MP.lt {w : World} {r : Nat} {l : List (Int × Nat)} (h : MP w r l) : r < w.heap.size := by obtain ⟨es, clock, hb, h⟩ := h; exact (Array.getElem?_eq_some_iff.1 hb).1
set_option maxRecDepth 100000 in
theorem MP.touch {w w' : World} {T : Nat → Prop} {r : Nat} {l : List (Int × Nat)} (h : MP w r l) (hT : Touch T w w') (hn : ¬ T r) : MP w' r l := by
  have hlt := h.lt
  obtain ⟨es, clock, hb, h⟩ := h
  exact ⟨es, clock, (hT.block r hlt hn).trans hb, h⟩
set_option maxRecDepth 100000 in
/-- 'm[k]' as an equation. -/
theorem MP.look {w : World} {r : Nat} {l : List (Int × Nat)} (h : MP w r l) {P : Program} {t kt e : TypeId} (ht : P.underlying t = some (.map kt e)) (hk : P.underlying kt = some (.int .i64)) (hz : (zeroValue e).run P w = .ok (.pointer none) w) (k : Int) :
    (Instr.lookup t (.map (some r)) (.int .i64 k) false).run P w = .ok (lk l k) w := by
  obtain ⟨es, clock, hb, h⟩ := h
  exact run_lookup_p ht hk hz hb h k
set_option maxRecDepth 100000 in
/-- 'm[k] = p' as an equation. -/
theorem MP.store {w : World} {r : Nat} {l : List (Int × Nat)} (h : MP w r l) {P : Program} {t kt e : TypeId} (ht : P.underlying t = some (.map kt e)) (hk : P.underlying kt = some (.int .i64)) (k : Int) (f : Nat) :
    ∃ w', (Instr.mapUpdate t (.map (some r)) (.int .i64 k) (.pointer (some ⟨f, 0, none⟩))).run P w = .ok () w' ∧ MP w' r (sans l k ++ [(k, f)]) ∧ Touch (fun j => j = r) w w' ∧ w'.heap.size = w.heap.size := by
  obtain ⟨es, clock, hb, h⟩ := h
  obtain ⟨es', clock', h1, h2⟩ := run_mapUpdate_p ht hk hb h k f
  exact ⟨_, h1, ⟨es', clock', heap_put_same hb, h2⟩, Touch.put (T := fun j => j = r) (Touch.refl _ w) (fun _ => rfl) _, by simp [World.put]⟩
set_option maxRecDepth 100000 in
/-- 'delete(m, k)' as an equation. -/
theorem MP.del {w : World} {r : Nat} {l : List (Int × Nat)} (h : MP w r l) {P : Program} {t kt e : TypeId} (ht : P.underlying t = some (.map kt e)) (hk : P.underlying kt = some (.int .i64)) (k : Int) (ty : TypeId) :
    ∃ w', (Builtin.delete_ #[t, kt] ty #[.map (some r), .int .i64 k]).run P w = .ok (.tuple #[]) w' ∧ MP w' r (sans l k) ∧ Touch (fun j => j = r) w w' ∧ w'.heap.size = w.heap.size := by
  obtain ⟨es, clock, hb, h⟩ := h
  obtain ⟨es', clock', h1, h2⟩ := run_delete_p ht hk hb h k ty
  exact ⟨_, h1, ⟨es', clock', heap_put_same hb, h2⟩, Touch.put (T := fun j => j = r) (Touch.refl _ w) (fun _ => rfl) _, by simp [World.put]⟩

section
variable {P : Program} {w : World} {ops : Array Oper} {rest : List Oper} {o : Oper} {a : Act} {Q : Exit → Act → World → Prop} {l : List (Int × Nat)}
set_option maxRecDepth 100000 in
/-- 'm[k]' at the operation. -/
theorem wpList_lookup_p (hg : o.guard = none) (m x : Operand) (t : TypeId) (hop : o.op = Op.lookup t m x false) (kt e : TypeId) (ht : P.underlying t = some (.map kt e)) (hk : P.underlying kt = some (.int .i64))
    (hz : ∀ w, (zeroValue e).run P w = .ok (.pointer none) w) (r : Nat) (hm : a.eval m = .map (some r)) (hr : MP w r l) (k : Int) (hx : a.eval x = .int .i64 k)
    (hK : wpList P ops Q rest (a.put o.dst (lk l k)) w) : wpList P ops Q (o :: rest) a w := by
  refine wpList_plain hg fun K' hK' => ?_
  have hrun := hr.look (P := P) ht hk (hz w) k
  unfold Oper.wp
  simp [execOp, hop, hm, hx, hrun, Result.andThen]
  exact hK' _ _ hK
set_option maxRecDepth 100000 in
/-- 'm[k] = p' at the operation. -/
theorem wpList_store_p (hg : o.guard = none) (m x v : Operand) (t : TypeId) (hop : o.op = Op.mapUpdate t m x v) (kt e : TypeId) (ht : P.underlying t = some (.map kt e)) (hk : P.underlying kt = some (.int .i64))
    (r : Nat) (hm : a.eval m = .map (some r)) (hr : MP w r l) (k : Int) (hx : a.eval x = .int .i64 k) (f : Nat) (hv : a.eval v = .pointer (some ⟨f, 0, none⟩))
    (hK : ∀ w', MP w' r (sans l k ++ [(k, f)]) → Touch (fun j => j = r) w w' → w'.heap.size = w.heap.size → wpList P ops Q rest (a.put o.dst (.tuple #[])) w') : wpList P ops Q (o :: rest) a w := by
  refine wpList_plain hg fun K' hK' => ?_
  obtain ⟨w', hrun, h1, h2, h3⟩ := hr.store (P := P) ht hk k f
  unfold Oper.wp
  simp [execOp, hop, hm, hx, hv, hrun, Result.andThen]
  exact hK' _ _ (hK w' h1 h2 h3)
set_option maxRecDepth 100000 in
/-- 'delete(m, k)' at the operation. -/
theorem wpList_delete_p (hg : o.guard = none) (m x : Operand) (t kt : TypeId) (hop : o.op = Op.call { callee := Callee.builtin Builtin.delete, args := #[m, x], argTypes := #[t, kt] }) (e : TypeId) (ht : P.underlying t = some (.map kt e)) (hk : P.underlying kt = some (.int .i64))
    (r : Nat) (hm : a.eval m = .map (some r)) (hr : MP w r l) (k : Int) (hx : a.eval x = .int .i64 k)
    (hK : ∀ w', MP w' r (sans l k) → Touch (fun j => j = r) w w' → w'.heap.size = w.heap.size → wpList P ops Q rest (a.put o.dst (.tuple #[])) w') : wpList P ops Q (o :: rest) a w := by
  refine wpList_plain hg fun K' hK' => ?_
  obtain ⟨w', hrun, h1, h2, h3⟩ := hr.del (P := P) ht hk k o.type
  unfold Oper.wp
  simp [execOp, hop, resolve, invoke, builtin, hm, hx, hrun, Result.andThen]
  exact hK' _ _ (hK w' h1 h2 h3)
end
end Go.Proofs.YtjlennpoaefllaaGreatDoor
