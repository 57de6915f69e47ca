/- Texts put together: DMem, DLeaf, DFill, DDisk. -/
import Derived.Test.YtjlennpoaefllaaGreatDoorQ06
import Derived.MapKept
import Derived.WalkKit
import Derived.Deep.MidRow
import Derived.Laws.CopyOwn
import Derived.Test.YtjlennpoaefllaaGreatDoorProg
import Derived.WalkSpells
import Derived.WalkLawsBesides
/- Laws on memory for the disk, over whatever program: a map from int to a sector; two arrays of bytes held against one another; worlds that turn in some blocks alone. -/
namespace Go.Proofs.YtjlennpoaefllaaGreatDoor
open Go.RowKit

/-- A sector of bytes 0. -/
def zeros : List UInt8 := List.replicate 256 0
theorem length_zeros : zeros.length = 256 := List.length_replicate
/-- H, but bs at k. -/
def upd (H : Int → List UInt8) (k : Int) (bs : List UInt8) : Int → List UInt8 := fun j => if j = k then bs else H j

/-- What a map's entries say: at each key a sector; where there is no entry it is of bytes 0. -/
structure MapIs (es : List MapEntry) (H : Int → List UInt8) : Prop where
  key : ∀ x ∈ es, MapKept.IsKey (.int .i64) x.key
  once : es.Pairwise (fun x y => x.key ≠ y.key)
  there : ∀ x ∈ es, ∀ k, x.key = .int .i64 k → x.val = .agg (S (H k)).toArray
  gone : ∀ k, (∀ x ∈ es, x.key ≠ .int .i64 k) → H k = zeros

theorem MapIs.nil : MapIs [] (fun _ => zeros) := ⟨by simp, by simp, by simp, by simp⟩

set_option maxRecDepth 100000 in
theorem split_at {l : List MapEntry} {j : Nat} {e : MapEntry} (h : l[j]? = some e) : l = l.take j ++ e :: l.drop (j + 1) := by
  obtain ⟨hj, rfl⟩ := List.getElem?_eq_some_iff.1 h
  rw [← List.drop_eq_getElem_cons hj, List.take_append_drop]

set_option maxRecDepth 100000 in
theorem MapIs.push {es : List MapEntry} {H : Int → List UInt8} (h : MapIs es H) (k : Int) (bs : List UInt8) (n : Nat) (hk : ∀ x ∈ es, x.key ≠ .int .i64 k) :
    MapIs (es ++ [{ key := .int .i64 k, val := .agg (S bs).toArray, born := n }]) (upd H k bs) := by
  refine ⟨?_, ?_, ?_, ?_⟩
  · intro x hx
    rcases List.mem_append.1 hx with hx | hx
    · exact h.key x hx
    · obtain rfl := List.mem_singleton.1 hx; exact rfl
  · rw [List.pairwise_append]
    exact ⟨h.once, by simp, fun x hx y hy => by obtain rfl := List.mem_singleton.1 hy; exact hk x hx⟩
  · intro x hx j hj
    rcases List.mem_append.1 hx with hx | hx
    · have hne : j ≠ k := fun e => hk x hx (by rw [hj, e])
      rw [upd, if_neg hne]; exact h.there x hx j hj
    · obtain rfl := List.mem_singleton.1 hx
      simp only [Value.int.injEq, true_and] at hj
      subst hj
      simp [upd]
  · intro j hj
    have hne : j ≠ k := fun e => hj _ (List.mem_append_right _ (List.mem_singleton.2 rfl)) (by rw [e])
    rw [upd, if_neg hne]
    exact h.gone j (fun x hx => hj x (List.mem_append_left _ hx))

set_option maxRecDepth 100000 in
theorem MapIs.set {E F : List MapEntry} {e : MapEntry} {H : Int → List UInt8} (h : MapIs (E ++ e :: F) H) (k : Int) (bs : List UInt8) (n : Nat) (hk : e.key = .int .i64 k) :
    MapIs (E ++ { key := .int .i64 k, val := .agg (S bs).toArray, born := n } :: F) (upd H k bs) := by
  have ho := List.pairwise_append.1 h.once
  have ho2 := List.pairwise_cons.1 ho.2.1
  refine ⟨?_, ?_, ?_, ?_⟩
  · intro x hx
    rcases List.mem_append.1 hx with hx | hx
    · exact h.key x (List.mem_append_left _ hx)
    · rcases List.mem_cons.1 hx with rfl | hx
      · exact rfl
      · exact h.key x (List.mem_append_right _ (List.mem_cons_of_mem _ hx))
  · rw [List.pairwise_append]
    refine ⟨ho.1, List.pairwise_cons.2 ⟨fun y hy => ?_, ho2.2⟩, fun x hx y hy => ?_⟩
    · have := ho2.1 y hy; rw [hk] at this; exact this
    · rcases List.mem_cons.1 hy with rfl | hy
      · have := ho.2.2 x hx e (List.mem_cons_self); rw [hk] at this; exact this
      · exact ho.2.2 x hx y (List.mem_cons_of_mem _ hy)
  · intro x hx j hj
    rcases List.mem_append.1 hx with hx | hx
    · have hne : j ≠ k := fun q => ho.2.2 x hx e (List.mem_cons_self) (by rw [hj, hk, q])
      rw [upd, if_neg hne]; exact h.there x (List.mem_append_left _ hx) j hj
    · rcases List.mem_cons.1 hx with rfl | hx
      · simp only [Value.int.injEq, true_and] at hj
        subst hj
        simp [upd]
      · have hne : j ≠ k := fun q => ho2.1 x hx (by rw [hj, hk, q])
        rw [upd, if_neg hne]; exact h.there x (List.mem_append_right _ (List.mem_cons_of_mem _ hx)) j hj
  · intro j hj
    have hne : j ≠ k := fun q => hj _ (List.mem_append_right _ List.mem_cons_self) (by rw [q])
    rw [upd, if_neg hne]
    refine h.gone j (fun x hx => ?_)
    rcases List.mem_append.1 hx with hx | hx
    · exact hj x (List.mem_append_left _ hx)
    · rcases List.mem_cons.1 hx with rfl | hx
      · rw [hk]; intro q; exact hne (by simpa using q.symm)
      · exact hj x (List.mem_append_right _ (List.mem_cons_of_mem _ hx))

set_option maxRecDepth 100000 in
theorem MapIs.erase {E F : List MapEntry} {e : MapEntry} {H : Int → List UInt8} (h : MapIs (E ++ e :: F) H) (k : Int) (hk : e.key = .int .i64 k) :
    MapIs (E ++ F) (upd H k zeros) := by
  have ho := List.pairwise_append.1 h.once
  have ho2 := List.pairwise_cons.1 ho.2.1
  have hin : ∀ x, x ∈ E ++ F → x ∈ E ++ e :: F ∧ x.key ≠ .int .i64 k := by
    intro x hx
    rcases List.mem_append.1 hx with hx | hx
    · exact ⟨List.mem_append_left _ hx, by have := ho.2.2 x hx e List.mem_cons_self; rwa [hk] at this⟩
    · exact ⟨List.mem_append_right _ (List.mem_cons_of_mem _ hx), fun q => ho2.1 x hx (by rw [hk, q])⟩
  refine ⟨fun x hx => h.key x (hin x hx).1, ?_, ?_, ?_⟩
  · rw [List.pairwise_append]
    exact ⟨ho.1, ho2.2, fun x hx y hy => ho.2.2 x hx y (List.mem_cons_of_mem _ hy)⟩
  · intro x hx j hj
    have hne : j ≠ k := fun q => (hin x hx).2 (by rw [hj, q])
    rw [upd, if_neg hne]; exact h.there x (hin x hx).1 j hj
  · intro j hj
    by_cases q : j = k
    · simp [upd, q]
    · rw [upd, if_neg q]
      refine h.gone j (fun x hx => ?_)
      rcases List.mem_append.1 hx with hx | hx
      · exact hj x (List.mem_append_left _ hx)
      · rcases List.mem_cons.1 hx with rfl | hx
        · rw [hk]; intro c; exact q (by simpa using c.symm)
        · exact hj x (List.mem_append_right _ hx)

set_option maxRecDepth 100000 in
theorem MapIs.none {es : List MapEntry} {H : Int → List UInt8} (h : MapIs es H) (k : Int) (hk : ∀ x ∈ es, x.key ≠ .int .i64 k) : MapIs es (upd H k zeros) := by
  refine ⟨h.key, h.once, fun x hx j hj => ?_, fun j hj => ?_⟩
  · have hne : j ≠ k := fun q => hk x hx (by rw [hj, q])
    rw [upd, if_neg hne]; exact h.there x hx j hj
  · by_cases q : j = k
    · simp [upd, q]
    · rw [upd, if_neg q]; exact h.gone j hj

/-- An object laid into a block. -/
def World.put (w : World) (r : Nat) (o : Obj) : World := { w with heap := w.heap.setIfInBounds r o }

section
variable {P : Program} {w : World} {t kt e : TypeId} {r clock : Nat} {es : Array MapEntry} {H : Int → List UInt8}

set_option maxRecDepth 100000 in
theorem run_lookup_sec (ht : P.underlying t = some (.map kt e)) (hk : P.underlying kt = some (.int .i64)) (hz : (zeroValue e).run P w = .ok (.agg (S zeros).toArray) w)
    (hb : w.heap[r]? = some (.map es clock)) (hm : MapIs es.toList H) (k : Int) :
    (Instr.lookup t (.map (some r)) (.int .i64 k) false).run P w = .ok (.agg (S (H k)).toArray) w := by
  have hkey : MapKept.IsKey (.int .i64) (.int .i64 k) := rfl
  have hc := fun b => MapKept.run_checkKey (w := w) hk hkey b 9999
  rcases MapKept.findNow_spec hkey es.toList 0 hm.key with ⟨h1, h2⟩ | ⟨j, x, h1, h2, h3⟩
  · have hf := MapKept.run_findKey (w := w) hk h1
    rw [hm.gone k h2]
    simp [Instr.lookup, run_underlying ht, MapKept.run_getObj_map hb, hc, hf, Result.andThen, hz]
  · have hf := MapKept.run_findKey (w := w) hk h1
    have hv := hm.there x (List.mem_of_getElem? h2) k h3
    simp [Instr.lookup, run_underlying ht, MapKept.run_getObj_map hb, hc, hf, Result.andThen, hv]

set_option maxRecDepth 100000 in
theorem run_mapUpdate_sec (ht : P.underlying t = some (.map kt e)) (hk : P.underlying kt = some (.int .i64))
    (hb : w.heap[r]? = some (.map es clock)) (hm : MapIs es.toList H) (k : Int) (bs : List UInt8) :
    ∃ es' clock', (Instr.mapUpdate t (.map (some r)) (.int .i64 k) (.agg (S bs).toArray)).run P w = .ok () (World.put w r (.map es' clock')) ∧ MapIs es'.toList (upd H k bs) := by
  have hkey : MapKept.IsKey (.int .i64) (.int .i64 k) := rfl
  have hc := fun b => MapKept.run_checkKey (w := w) hk hkey b 9999
  rcases MapKept.findNow_spec hkey es.toList 0 hm.key with ⟨h1, h2⟩ | ⟨j, x, h1, h2, h3⟩
  · have hf := MapKept.run_findKey (w := w) hk h1
    refine ⟨es.push { key := .int .i64 k, val := .agg (S bs).toArray, born := clock }, clock + 1, ?_, ?_⟩
    · simp [Instr.mapUpdate, run_underlying ht, MapKept.run_getObj_map hb, hc, hf, Result.andThen, MapKept.run_setObj_map _ hb, World.put]
    · simpa using hm.push k bs clock h2
  · have hf := MapKept.run_findKey (w := w) hk h1
    have h2' : es[j]? = some x := by simpa using h2
    have hst := MapKept.run_keyThatStays (P := P) (w := w) hkey
    refine ⟨es.modify j fun y => { y with key := .int .i64 k, val := .agg (S bs).toArray }, clock, ?_, ?_⟩
    · simp [Instr.mapUpdate, run_underlying ht, MapKept.run_getObj_map hb, hc, hf, Result.andThen, MapKept.run_setObj_map _ hb, World.put, h2', h3, hst]
    · have hs := split_at h2
      rw [hs] at hm
      have := hm.set k bs x.born h3
      have hl : (es.modify j fun y => { y with key := .int .i64 k, val := .agg (S bs).toArray }).toList = es.toList.take j ++ { key := .int .i64 k, val := .agg (S bs).toArray, born := x.born } :: es.toList.drop (j + 1) := by
        obtain ⟨hj, hx⟩ := List.getElem?_eq_some_iff.1 h2
        rw [Array.toList_modify, List.modify_eq_take_cons_drop hj, hx]
      rw [hl]; exact this

set_option maxRecDepth 100000 in
theorem run_delete_sec (ht : P.underlying t = some (.map kt e)) (hk : P.underlying kt = some (.int .i64))
    (hb : w.heap[r]? = some (.map es clock)) (hm : MapIs es.toList H) (k : Int) (ty : TypeId) :
    ∃ es' clock', (Builtin.delete_ #[t, kt] ty #[.map (some r), .int .i64 k]).run P w = .ok (.tuple #[]) (World.put w r (.map es' clock')) ∧ MapIs es'.toList (upd H k zeros) := by
  have hkey : MapKept.IsKey (.int .i64) (.int .i64 k) := rfl
  have hc := fun b => MapKept.run_checkKey (w := w) hk hkey b 9999
  rcases MapKept.findNow_spec hkey es.toList 0 hm.key with ⟨h1, h2⟩ | ⟨j, x, h1, h2, h3⟩
  · have hf := MapKept.run_findKey (w := w) hk h1
    refine ⟨es, clock, ?_, hm.none k h2⟩
    simp [Builtin.delete_, run_underlying ht, MapKept.run_getObj_map hb, hc, hf, Result.andThen, MapKept.run_setObj_map _ hb, World.put]
  · have hf := MapKept.run_findKey (w := w) hk h1
    refine ⟨es.eraseIdxIfInBounds j, clock, ?_, ?_⟩
    · simp [Builtin.delete_, run_underlying ht, MapKept.run_getObj_map hb, hc, hf, Result.andThen, MapKept.run_setObj_map _ hb, World.put]
    · have hs := split_at h2
      rw [hs] at hm
      have := hm.erase k h3
      have hl : (es.eraseIdxIfInBounds j).toList = es.toList.take j ++ es.toList.drop (j + 1) := by
        have hj := (List.getElem?_eq_some_iff.1 h2).1
        simp only [Array.length_toList] at hj
        simp [Array.eraseIdxIfInBounds, hj, List.eraseIdx_eq_take_drop_succ]
      rw [hl]; exact this
end


section
variable {P : Program} {w : World} {ops : Array Oper} {rest : List Oper} {o : Oper} {a : Act} {Q : Exit → Act → World → Prop} {H : Int → List UInt8}
end

set_option maxRecDepth 100000 in
theorem heap_put_same {w : World} {r : Nat} {o o' : Obj} (h : w.heap[r]? = some o) : (World.put w r o').heap[r]? = some o' := by
  have hlt : r < w.heap.size := (Array.getElem?_eq_some_iff.1 h).1
  simp [World.put, hlt]
set_option maxRecDepth 100000 in
theorem heap_put_other {w : World} {r k : Nat} {o' : Obj} (h : k ≠ r) : (World.put w r o').heap[k]? = w.heap[k]? := by simp [World.put, Ne.symm h]

/-! ### Two arrays of bytes held against one another -/
set_option maxRecDepth 100000 in
theorem run_part_byte {P : Program} {w : World} {e : TypeId} (hu : P.underlying e = some (.int .u8)) (hi : (P.info? e).map (·.size) = some 1) (bs : List UInt8) (i : Nat) (b : UInt8) (h : bs[i]? = some b) :
    (part e (S bs).toArray i).run P w = .ok (B8 b) w := by
  have hc : (S bs).toArray[i]? = some (B8 b) := by simp [S, h]
  cases hq : P.info? e with
  | none => simp [hq] at hi
  | some inf =>
    have hs : inf.size = 1 := by simpa [hq] using hi
    have hagg : (isAgg e).run P w = .ok false w := by
      unfold isAgg
      rw [Sem.run_bind, run_underlying hu w]
      simp
    simp [part, Sem.run_bind, hagg, hc]

set_option maxRecDepth 100000 in
theorem run_equal_loop {P : Program} {w : World} {e : TypeId} (d : Nat) (hu : P.underlying e = some (.int .u8)) (hi : (P.info? e).map (·.size) = some 1)
    (a b : List UInt8) : ∀ (m s : Nat), s + m = a.length → s + m = b.length →
    (Sem.run P (forIn (List.range' s m) ((none : Option Bool), ()) fun i _ => do
            let x ← part e (S a).toArray (i * 1)
            let y ← part e (S b).toArray (i * 1)
            let r ← Op.equalIn (d + 1) e x y
            if (!r) = true then pure (ForInStep.done (some false, ())) else pure (ForInStep.yield (none, ()))) w) =
      .ok (if a.drop s = b.drop s then (none, ()) else (some false, ())) w
  | 0, s, ha, hb => by
    have h1 : a.drop s = [] := List.drop_eq_nil_of_le (by omega)
    have h2 : b.drop s = [] := List.drop_eq_nil_of_le (by omega)
    simp [h1, h2]
  | m + 1, s, ha, hb => by
    have hsa : s < a.length := by omega
    have hsb : s < b.length := by omega
    have ih := run_equal_loop (w := w) d hu hi a b m (s + 1) (by omega) (by omega)
    have p1 := run_part_byte (w := w) hu hi a s a[s] (by simp [hsa])
    have p2 := run_part_byte (w := w) hu hi b s b[s] (by simp [hsb])
    have q : (Op.equalIn (d + 1) e (B8 a[s]) (B8 b[s])).run P w = .ok (((a[s].toNat : Int)) == (b[s].toNat : Int)) w := run_equalIn_int w d e .u8 .u8 _ _ hu
    rw [List.range'_succ, List.forIn_cons]
    simp only [Nat.mul_one] at ih ⊢
    simp only [Sem.run_bind, p1, p2, q, Result.andThen_ok, Sem.run_ite, Sem.run_pure]
    rw [List.drop_eq_getElem_cons hsa, List.drop_eq_getElem_cons hsb]
    by_cases h : a[s] = b[s]
    · rw [h]
      simp only [BEq.rfl, Bool.not_true, Bool.false_eq_true, if_false, Result.andThen_ok, List.cons.injEq, true_and]
      exact ih
    · have h1 : ((a[s].toNat : Int) == (b[s].toNat : Int)) = false := by
        rw [beq_eq_false_iff_ne]; intro c; exact h (UInt8.toNat_inj.1 (by omega))
      rw [if_neg (fun c => h (List.cons.inj c).1), h1]; simp
set_option maxRecDepth 100000 in
theorem run_equal_bytes {P : Program} {w : World} {t e : TypeId} {n : Nat} (d : Nat) (ht : P.underlying t = some (.array n e)) (hu : P.underlying e = some (.int .u8)) (hi : (P.info? e).map (·.size) = some 1)
    (a b : List UInt8) (ha : a.length = n) (hb : b.length = n) :
    (Op.equalIn (d + 1 + 1) t (.agg (S a).toArray) (.agg (S b).toArray)).run P w = .ok (a == b) w := by
  have hsz : (sizeOf e).run P w = .ok 1 w := by
    cases hq : P.info? e with
    | none => simp [hq] at hi
    | some inf => have hs : inf.size = 1 := by simpa [hq] using hi
                  simp [sizeOf, typeInfo, hq, hs]
  have hl := run_equal_loop (w := w) d hu hi a b n 0 (by omega) (by omega)
  have hn : [:n].size = n := by simp [Std.Legacy.Range.size]
  rw [Op.equalIn]
  simp only [Sem.run_bind, run_underlying ht, Result.andThen_ok, hsz]
  simp only [Std.Legacy.Range.forIn_eq_forIn_range', hn, hl, Result.andThen_ok, List.drop_zero]
  by_cases h : a = b
  · simp [h]
  · have h1 : (a == b) = false := by rw [beq_eq_false_iff_ne]; exact h
    rw [if_neg h, h1]; rfl

/-! ### Worlds that turn in some blocks alone -/
theorem Touch.put {T : Nat → Prop} {a w : World} (h : Touch T a w) {g : Nat} (hp : g < a.heap.size → T g) (o : Obj) : Touch T a (World.put w g o) :=
  h.then (U := fun k => k = g) ⟨rfl, rfl, rfl, by simp [World.put], fun k _ hk => by simp [World.put, Ne.symm hk]⟩ (fun i hi e => by subst e; exact hp hi)
end Go.Proofs.YtjlennpoaefllaaGreatDoor

/- The leaves: made, hasSector, off, step, and closed facts on types. -/
namespace Go.Proofs.YtjlennpoaefllaaGreatDoor
open Go.RowKit

set_option maxRecDepth 100000 in
theorem info74 : (Tryz.prog.info? 186).map (·.size) = some 256 := by kernel_rfl
set_option maxRecDepth 100000 in
theorem info76 : (Tryz.prog.info? 188).map (·.size) = some 257 := by kernel_rfl

set_option maxRecDepth 100000 in
set_option maxHeartbeats 400000 in
theorem made_any (b : Nat) (n : Int) (w : World) (c0 : w.cell? ⟨b, 0, none⟩ = some (.int .i64 n)) : Calls Tryz.prog 76 #[.pointer (some ⟨b, 0, none⟩)] w fun e w' => e = .returned (.bool (decide (0 < n))) ∧ w' = w := by
  go_enter Tryz.func76, Tryz.ntmps76
  go_wp2
  go_ret
  exact ⟨rfl, rfl⟩

set_option maxRecDepth 100000 in
set_option maxHeartbeats 400000 in
theorem hasSector_any (b : Nat) (n i : Int) (w : World) (c0 : w.cell? ⟨b, 0, none⟩ = some (.int .i64 n)) : Calls Tryz.prog 143 #[.pointer (some ⟨b, 0, none⟩), .int .i64 i] w fun e w' => e = .returned (.bool (decide (0 ≤ i) && decide (i < n))) ∧ w' = w := by
  by_cases h : 0 ≤ i
  · go_enter Tryz.func143, Tryz.ntmps143
    go_wp2
    go_ret
    exact ⟨by simp [h], rfl⟩
  · go_enter Tryz.func143, Tryz.ntmps143
    go_wp2
    go_ret
    exact ⟨by rw [decide_eq_false (by omega : ¬ 0 ≤ i)]; rfl, rfl⟩

set_option maxRecDepth 100000 in
set_option maxHeartbeats 400000 in
theorem off_any (b : Nat) (n : Int) (w : World) (c4 : w.cell? ⟨b, 4, none⟩ = some (.int .i64 n)) : Calls Tryz.prog 87 #[.pointer (some ⟨b, 0, none⟩)] w fun e w' => e = .returned (.bool (n == 0)) ∧ w' = w := by
  go_enter Tryz.func87, Tryz.ntmps87
  go_wp2
  go_ret
  exact ⟨rfl, rfl⟩

/-- How many steps are left behind one more. -/
def less (l : Int) : Int := if 0 < l then l - 1 else l

set_option maxRecDepth 100000 in
set_option maxHeartbeats 400000 in
theorem step_any (b : Nat) (x0 x1 x2 : Value) (s l : Int) (w : World) (hb : w.heap[b]? = some (.cells #[x0, x1, x2, .int .i64 s, .int .i64 l] 81 (0, 0))) (h0 : 0 ≤ s) (h1 : s < 1000000) (h2 : -1 ≤ l) (h3 : l ≤ 9223372036854775807) :
    Calls Tryz.prog 144 #[.pointer (some ⟨b, 0, none⟩)] w fun e w' => e = .returned (.tuple #[]) ∧ w' = w.setRow b #[x0, x1, x2, .int .i64 (s + 1), .int .i64 (less l)] := by
  have c3 : w.cell? ⟨b, 3, none⟩ = some (.int .i64 s) := cellOf hb 3
  have c4 : w.cell? ⟨b, 4, none⟩ = some (.int .i64 l) := cellOf hb 4
  have f3 : w.frozen? ⟨b, 3, none⟩ = false := frozen_of_row w b 3 _ 81 hb
  have f4 : w.frozen? ⟨b, 4, none⟩ = false := frozen_of_row w b 4 _ 81 hb
  have e1 : w.setCell ⟨b, 3, none⟩ (.int .i64 (s + 1)) = w.setRow b #[x0, x1, x2, .int .i64 (s + 1), .int .i64 l] := setCell_eq_setRow w b 3 _ 81 _ _ hb
  have e2 : (w.setCell ⟨b, 3, none⟩ (.int .i64 (s + 1))).setCell ⟨b, 4, none⟩ (.int .i64 (l - 1)) = w.setRow b #[x0, x1, x2, .int .i64 (s + 1), .int .i64 (l - 1)] := by
    rw [e1, setCell_eq_setRow _ b 4 _ 81 _ _ (setRow_heap w b _ _ 81 _ hb), setRow_setRow]; rfl
  have E1 : Hid (w.setCell ⟨b, 3, none⟩ (.int .i64 (s + 1)) = w.setRow b #[x0, x1, x2, .int .i64 (s + 1), .int .i64 l]) := e1
  have E2 : Hid ((w.setCell ⟨b, 3, none⟩ (.int .i64 (s + 1))).setCell ⟨b, 4, none⟩ (.int .i64 (l - 1)) = w.setRow b #[x0, x1, x2, .int .i64 (s + 1), .int .i64 (l - 1)]) := e2
  clear e1 e2 hb
  by_cases h : 0 < l
  · go_enter Tryz.func144, Tryz.ntmps144
    go_wp2
    go_end0
    exact ⟨rfl, by rw [E2.out, less, if_pos h]⟩
  · go_enter Tryz.func144, Tryz.ntmps144
    go_wp2
    go_end0
    exact ⟨rfl, by rw [E1.out, less, if_neg (by omega)]⟩

end Go.Proofs.YtjlennpoaefllaaGreatDoor

/- filled: a slice of 256 bytes of one kind, in new memory. -/
namespace Go.Proofs.YtjlennpoaefllaaGreatDoor
open Go.RowKit

set_option maxRecDepth 100000 in
theorem make256 (w : World) : (Instr.makeSlice 43 (.int .i64 256) (.int .i64 256)).run Tryz.prog w = .ok (.slice (some ⟨w.heap.size, 0, none⟩) 256 256) (w.alloc (.cells (S zeros).toArray 5)) := by kernel_rfl

end Go.Proofs.YtjlennpoaefllaaGreatDoor

/- What a disk is in memory, and New. -/
namespace Go.Proofs.YtjlennpoaefllaaGreatDoor
open Go.RowKit

/-- A disk's state: how many sectors, what they hold, the writes that wait, the steps, how many are left. -/
structure dSt where
  size : Int
  H : Int → List UInt8
  W : List (Int × List UInt8)
  steps : Int
  left : Int

/-- A waiting write as cells. -/
def wcells (x : Int × List UInt8) : List Value := .int .i64 x.1 :: S x.2
/-- The waiting writes as cells. -/
def dflat (W : List (Int × List UInt8)) : List Value := W.flatMap wcells

/-- At p lies a disk in the state D: its map in block hb, its waiting writes in the slice wv; none of its blocks is below B. -/
structure IsDisk (w : World) (B p hb : Nat) (wv : Value) (D : dSt) : Prop where
  box : w.heap[p]? = some (.cells #[.int .i64 D.size, .map (some hb), wv, .int .i64 D.steps, .int .i64 D.left] 81 (0, 0))
  held : ∃ es clock, w.heap[hb]? = some (.map es clock) ∧ MapIs es.toList D.H
  wait : w.ownsRow B 188 257 wv D.W.length (dflat D.W)
  good : ∀ k, (D.H k).length = 256
  goodW : ∀ x ∈ D.W, x.2.length = 256
  low : B ≤ p ∧ B ≤ hb

/-- A new disk's state. -/
def dSt.new (n : Int) : dSt := { size := n, H := fun _ => zeros, W := [], steps := 0, left := -1 }

set_option maxRecDepth 100000 in
theorem IsDisk.kept {w w' : World} {B p hb : Nat} {wv : Value} {D : dSt} (h : IsDisk w B p hb wv D) {T : Nat → Prop} (ht : Touch T w w') (hp : ¬ T p) (hh : ¬ T hb) (hw : ∀ k, wv.ownBlock = some k → ¬ T k) : IsDisk w' B p hb wv D := by
  obtain ⟨es, clock, h1, h2⟩ := h.held
  refine ⟨?_, ⟨es, clock, ?_, h2⟩, ⟨h.wait.1, ?_⟩, h.good, h.goodW, h.low⟩
  · rw [ht.block p (Array.getElem?_eq_some_iff.1 h.box).1 hp]; exact h.box
  · rw [ht.block hb (Array.getElem?_eq_some_iff.1 h1).1 hh]; exact h1
  · rcases h.wait.2 with hn | ⟨g, cap, cur, rfl, hb', hgg, rest⟩
    · exact .inl hn
    · refine .inr ⟨g, cap, cur, rfl, hb', ?_, rest⟩
      rw [ht.block g (Array.getElem?_eq_some_iff.1 hgg).1 (hw g rfl)]; exact hgg

theorem IsDisk.adds {w w' : World} {B p hb : Nat} {wv : Value} {D : dSt} (h : IsDisk w B p hb wv D) (ht : Adds w w') : IsDisk w' B p hb wv D := h.kept ht id id (fun _ _ => id)

/-- What New tells, and leaves. -/
def PNew (w : World) (B : Nat) (n : Int) (e : Ending) (w' : World) : Prop := ∃ p hb, e = .returned (.tuple #[.pointer (some ⟨p, 0, none⟩), .int .i64 0]) ∧ w.heap.size ≤ p ∧ w.heap.size ≤ hb ∧
    IsDisk w' B p hb (.slice none 0 0) (dSt.new n) ∧ Adds w w'

set_option maxRecDepth 100000 in
set_option maxHeartbeats 400000 in
theorem new_yes (n : Int) (w : World) (B : Nat) (hB : B ≤ w.heap.size) (h1 : 1 ≤ n) (h2 : n ≤ 4096) : Calls Tryz.prog 9 #[.int .i64 n] w (PNew w B n) := by
  have hmm := @run_makeMap Tryz.prog
  have h1' : ¬ n < 1 := by omega
  have h2' : ¬ 4096 < n := by omega
  go_enter Tryz.func9, Tryz.ntmps9
  go_wp2
  go_ret2
  refine ⟨w.heap.size + 1, w.heap.size, rfl, by omega, by omega, ⟨?_, ⟨#[], 0, ?_, MapIs.nil⟩, World.ownsRow_nil _ _ _ _, ?_, ?_, by omega, hB⟩, ((Touch.refl _ w).alloc _).alloc _⟩
  · exact heap_alloc2_new w _ _
  · exact heap_alloc2_old w _ _
  · intro k; exact length_zeros
  · intro x hx; cases hx

end Go.Proofs.YtjlennpoaefllaaGreatDoor
