/- Texts put together: DMem, DLeaf, DFill, DDisk. -/
import Derived.Test.YtjlennpoaefllaaGreatDoorQ06
import Derived.MapKept
import Derived.WalkKit
import Derived.Deep.MidRow
import Derived.Laws.CopyOwn
import Derived.Test.YtjlennpoaefllaaGreatDoorProg
import Derived.WalkSpells
import Derived.WalkLawsBesides
/- Laws on memory for the disk, over whatever program: a map from int to a sector; two arrays of bytes held against one another; worlds that turn in some blocks alone. -/
namespace Go.Proofs.YtjlennpoaefllaaGreatDoor
open Go.RowKit

/-- A sector of bytes 0. -/
def zeros : List UInt8 := List.replicate 256 0
theorem length_zeros : zeros.length = 256 := List.length_replicate
/-- H, but bs at k. -/
def upd (H : Int → List UInt8) (k : Int) (bs : List UInt8) : Int → List UInt8 := fun j => if j = k then bs else H j

/-- What a map's entries say: at each key a sector; where there is no entry it is of bytes 0. -/
structure MapIs (es : List MapEntry) (H : Int → List UInt8) : Prop where
  key : ∀ x ∈ es, MapKept.IsKey (.int .i64) x.key
  once : es.Pairwise (fun x y => x.key ≠ y.key)
  there : ∀ x ∈ es, ∀ k, x.key = .int .i64 k → x.val = .agg (S (H k)).toArray
  gone : ∀ k, (∀ x ∈ es, x.key ≠ .int .i64 k) → H k = zeros

theorem MapIs.nil : MapIs [] (fun _ => zeros) := ⟨by simp, by simp, by simp, by simp⟩

set_option maxRecDepth 100000 in
theorem split_at {l : List MapEntry} {j : Nat} {e : MapEntry} (h : l[j]? = some e) : l = l.take j ++ e :: l.drop (j + 1) := by
  obtain ⟨hj, rfl⟩ := List.getElem?_eq_some_iff.1 h
  rw [← List.drop_eq_getElem_cons hj, List.take_append_drop]

set_option maxRecDepth 100000 in
theorem MapIs.push {es : List MapEntry} {H : Int → List UInt8} (h : MapIs es H) (k : Int) (bs : List UInt8) (n : Nat) (hk : ∀ x ∈ es, x.key ≠ .int .i64 k) :
    MapIs (es ++ [{ key := .int .i64 k, val := .agg (S bs).toArray, born := n }]) (upd H k bs) := by
  refine ⟨?_, ?_, ?_, ?_⟩
  · intro x hx
    rcases List.mem_append.1 hx with hx | hx
    · exact h.key x hx
    · obtain rfl := List.mem_singleton.1 hx; exact rfl
  · rw [List.pairwise_append]
    exact ⟨h.once, by simp, fun x hx y hy => by obtain rfl := List.mem_singleton.1 hy; exact hk x hx⟩
  · intro x hx j hj
    rcases List.mem_append.1 hx with hx | hx
    · have hne : j ≠ k := fun e => hk x hx (by rw [hj, e])
      rw [upd, if_neg hne]; exact h.there x hx j hj
    · obtain rfl := List.mem_singleton.1 hx
      simp only [Value.int.injEq, true_and] at hj
      subst hj
      simp [upd]
  · intro j hj
    have hne : j ≠ k := fun e => hj _ (List.mem_append_right _ (List.mem_singleton.2 rfl)) (by rw [e])
    rw [upd, if_neg hne]
    exact h.gone j (fun x hx => hj x (List.mem_append_left _ hx))

set_option maxRecDepth 100000 in
theorem MapIs.set {E F : List MapEntry} {e : MapEntry} {H : Int → List UInt8} (h : MapIs (E ++ e :: F) H) (k : Int) (bs : List UInt8) (n : Nat) (hk : e.key = .int .i64 k) :
    MapIs (E ++ { key := .int .i64 k, val := .agg (S bs).toArray, born := n } :: F) (upd H k bs) := by
  have ho := List.pairwise_append.1 h.once
  have ho2 := List.pairwise_cons.1 ho.2.1
  refine ⟨?_, ?_, ?_, ?_⟩
  · intro x hx
    rcases List.mem_append.1 hx with hx | hx
    · exact h.key x (List.mem_append_left _ hx)
    · rcases List.mem_cons.1 hx with rfl | hx
      · exact rfl
      · exact h.key x (List.mem_append_right _ (List.mem_cons_of_mem _ hx))
  · rw [List.pairwise_append]
    refine ⟨ho.1, List.pairwise_cons.2 ⟨fun y hy => ?_, ho2.2⟩, fun x hx y hy => ?_⟩
    · have := ho2.1 y hy; rw [hk] at this; exact this
    · rcases List.mem_cons.1 hy with rfl | hy
      · have := ho.2.2 x hx e (List.mem_cons_self); rw [hk] at this; exact this
      · exact ho.2.2 x hx y (List.mem_cons_of_mem _ hy)
  · intro x hx j hj
    rcases List.mem_append.1 hx with hx | hx
    · have hne : j ≠ k := fun q => ho.2.2 x hx e (List.mem_cons_self) (by rw [hj, hk, q])
      rw [upd, if_neg hne]; exact h.there x (List.mem_append_left _ hx) j hj
    · rcases List.mem_cons.1 hx with rfl | hx
      · simp only [Value.int.injEq, true_and] at hj
        subst hj
        simp [upd]
      · have hne : j ≠ k := fun q => ho2.1 x hx (by rw [hj, hk, q])
        rw [upd, if_neg hne]; exact h.there x (List.mem_append_right _ (List.mem_cons_of_mem _ hx)) j hj
  · intro j hj
    have hne : j ≠ k := fun q => hj _ (List.mem_append_right _ List.mem_cons_self) (by rw [q])
    rw [upd, if_neg hne]
    refine h.gone j (fun x hx => ?_)
    rcases List.mem_append.1 hx with hx | hx
    · exact hj x (List.mem_append_left _ hx)
    · rcases List.mem_cons.1 hx with rfl | hx
      · rw [hk]; intro q; exact hne (by simpa using q.symm)
      · exact hj x (List.mem_append_right _ (List.mem_cons_of_mem _ hx))

set_option maxRecDepth 100000 in
theorem MapIs.erase {E F : List MapEntry} {e : MapEntry} {H : Int → List UInt8} (h : MapIs (E ++ e :: F) H) (k : Int) (hk : e.key = .int .i64 k) :
    MapIs (E ++ F) (upd H k zeros) := by
  have ho := List.pairwise_append.1 h.once
  have ho2 := List.pairwise_cons.1 ho.2.1
  have hin : ∀ x, x ∈ E ++ F → x ∈ E ++ e :: F ∧ x.key ≠ .int .i64 k := by
    intro x hx
    rcases List.mem_append.1 hx with hx | hx
    · exact ⟨List.mem_append_left _ hx, by have := ho.2.2 x hx e List.mem_cons_self; rwa [hk] at this⟩
    · exact ⟨List.mem_append_right _ (List.mem_cons_of_mem _ hx), fun q => ho2.1 x hx (by rw [hk, q])⟩
  refine ⟨fun x hx => h.key x (hin x hx).1, ?_, ?_, ?_⟩
  · rw [List.pairwise_append]
    exact ⟨ho.1, ho2.2, fun x hx y hy => ho.2.2 x hx y (List.mem_cons_of_mem _ hy)⟩
  · intro x hx j hj
    have hne : j ≠ k := fun q => (hin x hx).2 (by rw [hj, q])
    rw [upd, if_neg hne]; exact h.there x (hin x hx).1 j hj
  · intro j hj
    by_cases q : j = k
    · simp [upd, q]
    · rw [upd, if_neg q]
      refine h.gone j (fun x hx => ?_)
      rcases List.mem_append.1 hx with hx | hx
      · exact hj x (List.mem_append_left _ hx)
      · rcases List.mem_cons.1 hx with rfl | hx
        · rw [hk]; intro c; exact q (by simpa using c.symm)
        · exact hj x (List.mem_append_right _ hx)

set_option maxRecDepth 100000 in
theorem MapIs.none {es : List MapEntry} {H : Int → List UInt8} (h : MapIs es H) (k : Int) (hk : ∀ x ∈ es, x.key ≠ .int .i64 k) : MapIs es (upd H k zeros) := by
  refine ⟨h.key, h.once, fun x hx j hj => ?_, fun j hj => ?_⟩
  · have hne : j ≠ k := fun q => hk x hx (by rw [hj, q])
    rw [upd, if_neg hne]; exact h.there x hx j hj
  · by_cases q : j = k
    · simp [upd, q]
    · rw [upd, if_neg q]; exact h.gone j hj

/-- An object laid into a block. -/
def World.put (w : World) (r : Nat) (o : Obj) : World := { w with heap := w.heap.setIfInBounds r o }

section
variable {P : Program} {w : World} {t kt e : TypeId} {r clock : Nat} {es : Array MapEntry} {H : Int → List UInt8}

set_option maxRecDepth 100000 in
theorem run_lookup_sec (ht : P.underlying t = some (.map kt e)) (hk : P.underlying kt = some (.int .i64)) (hz : (zeroValue e).run P w = .ok (.agg (S zeros).toArray) w)
    (hb : w.heap[r]? = some (.map es clock)) (hm : MapIs es.toList H) (k : Int) :
    (Instr.lookup t (.map (some r)) (.int .i64 k) false).run P w = .ok (.agg (S (H k)).toArray) w := by
  have hkey : MapKept.IsKey (.int .i64) (.int .i64 k) := rfl
  have hc := fun b => MapKept.run_checkKey (w := w) hk hkey b 9999
  rcases MapKept.findNow_spec hkey es.toList 0 hm.key with ⟨h1, h2⟩ | ⟨j, x, h1, h2, h3⟩
  · have hf := MapKept.run_findKey (w := w) hk h1
    rw [hm.gone k h2]
    simp [Instr.lookup, run_underlying ht, MapKept.run_getObj_map hb, hc, hf, Result.andThen, hz]
  · have hf := MapKept.run_findKey (w := w) hk h1
    have hv := hm.there x (List.mem_of_getElem? h2) k h3
    simp [Instr.lookup, run_underlying ht, MapKept.run_getObj_map hb, hc, hf, Result.andThen, hv]

end


section
variable {P : Program} {w : World} {ops : Array Oper} {rest : List Oper} {o : Oper} {a : Act} {Q : Exit → Act → World → Prop} {H : Int → List UInt8}
end

set_option maxRecDepth 100000 in
theorem heap_put_same {w : World} {r : Nat} {o o' : Obj} (h : w.heap[r]? = some o) : (World.put w r o').heap[r]? = some o' := by
  have hlt : r < w.heap.size := (Array.getElem?_eq_some_iff.1 h).1
  simp [World.put, hlt]
set_option maxRecDepth 100000 in
theorem heap_put_other {w : World} {r k : Nat} {o' : Obj} (h : k ≠ r) : (World.put w r o').heap[k]? = w.heap[k]? := by simp [World.put, Ne.symm h]

/-! ### Two arrays of bytes held against one another -/
/-! ### Worlds that turn in some blocks alone -/
theorem Touch.put {T : Nat → Prop} {a w : World} (h : Touch T a w) {g : Nat} (hp : g < a.heap.size → T g) (o : Obj) : Touch T a (World.put w g o) :=
  h.then (U := fun k => k = g) ⟨rfl, rfl, rfl, by simp [World.put], fun k _ hk => by simp [World.put, Ne.symm hk]⟩ (fun i hi e => by subst e; exact hp hi)
end Go.Proofs.YtjlennpoaefllaaGreatDoor

/- The leaves: made, hasSector, off, step, and closed facts on types. -/
namespace Go.Proofs.YtjlennpoaefllaaGreatDoor
open Go.RowKit

set_option maxRecDepth 100000 in
theorem info74 : (Tryz.prog.info? 186).map (·.size) = some 256 := by kernel_rfl
set_option maxRecDepth 100000 in
set_option maxHeartbeats 400000 in
theorem made_any (b : Nat) (n : Int) (w : World) (c0 : w.cell? ⟨b, 0, none⟩ = some (.int .i64 n)) : Calls Tryz.prog 76 #[.pointer (some ⟨b, 0, none⟩)] w fun e w' => e = .returned (.bool (decide (0 < n))) ∧ w' = w := by
  go_enter Tryz.func76, Tryz.ntmps76
  go_wp2
  go_ret
  exact ⟨rfl, rfl⟩

set_option maxRecDepth 100000 in
set_option maxHeartbeats 400000 in
theorem hasSector_any (b : Nat) (n i : Int) (w : World) (c0 : w.cell? ⟨b, 0, none⟩ = some (.int .i64 n)) : Calls Tryz.prog 143 #[.pointer (some ⟨b, 0, none⟩), .int .i64 i] w fun e w' => e = .returned (.bool (decide (0 ≤ i) && decide (i < n))) ∧ w' = w := by
  by_cases h : 0 ≤ i
  · go_enter Tryz.func143, Tryz.ntmps143
    go_wp2
    go_ret
    exact ⟨by simp [h], rfl⟩
  · go_enter Tryz.func143, Tryz.ntmps143
    go_wp2
    go_ret
    exact ⟨by rw [decide_eq_false (by omega : ¬ 0 ≤ i)]; rfl, rfl⟩

set_option maxRecDepth 100000 in
set_option maxHeartbeats 400000 in
theorem off_any (b : Nat) (n : Int) (w : World) (c4 : w.cell? ⟨b, 4, none⟩ = some (.int .i64 n)) : Calls Tryz.prog 87 #[.pointer (some ⟨b, 0, none⟩)] w fun e w' => e = .returned (.bool (n == 0)) ∧ w' = w := by
  go_enter Tryz.func87, Tryz.ntmps87
  go_wp2
  go_ret
  exact ⟨rfl, rfl⟩

end Go.Proofs.YtjlennpoaefllaaGreatDoor

/- filled: a slice of 256 bytes of one kind, in new memory. -/
namespace Go.Proofs.YtjlennpoaefllaaGreatDoor
open Go.RowKit

set_option maxRecDepth 100000 in
theorem make256 (w : World) : (Instr.makeSlice 43 (.int .i64 256) (.int .i64 256)).run Tryz.prog w = .ok (.slice (some ⟨w.heap.size, 0, none⟩) 256 256) (w.alloc (.cells (S zeros).toArray 5)) := by kernel_rfl

end Go.Proofs.YtjlennpoaefllaaGreatDoor

/- What a disk is in memory, and New. -/
namespace Go.Proofs.YtjlennpoaefllaaGreatDoor
open Go.RowKit

/-- A disk's state: how many sectors, what they hold, the writes that wait, the steps, how many are left. -/
structure dSt where
  size : Int
  H : Int → List UInt8
  W : List (Int × List UInt8)
  steps : Int
  left : Int

/-- A waiting write as cells. -/
def wcells (x : Int × List UInt8) : List Value := .int .i64 x.1 :: S x.2
/-- The waiting writes as cells. -/
def dflat (W : List (Int × List UInt8)) : List Value := W.flatMap wcells

/-- At p lies a disk in the state D: its map in block hb, its waiting writes in the slice wv; none of its blocks is below B. -/
structure IsDisk (w : World) (B p hb : Nat) (wv : Value) (D : dSt) : Prop where
  box : w.heap[p]? = some (.cells #[.int .i64 D.size, .map (some hb), wv, .int .i64 D.steps, .int .i64 D.left] 81 (0, 0))
  held : ∃ es clock, w.heap[hb]? = some (.map es clock) ∧ MapIs es.toList D.H
  wait : w.ownsRow B 188 257 wv D.W.length (dflat D.W)
  good : ∀ k, (D.H k).length = 256
  goodW : ∀ x ∈ D.W, x.2.length = 256
  low : B ≤ p ∧ B ≤ hb

/-- A new disk's state. -/
def dSt.new (n : Int) : dSt := { size := n, H := fun _ => zeros, W := [], steps := 0, left := -1 }

set_option maxRecDepth 100000 in
theorem IsDisk.kept {w w' : World} {B p hb : Nat} {wv : Value} {D : dSt} (h : IsDisk w B p hb wv D) {T : Nat → Prop} (ht : Touch T w w') (hp : ¬ T p) (hh : ¬ T hb) (hw : ∀ k, wv.ownBlock = some k → ¬ T k) : IsDisk w' B p hb wv D := by
  obtain ⟨es, clock, h1, h2⟩ := h.held
  refine ⟨?_, ⟨es, clock, ?_, h2⟩, ⟨h.wait.1, ?_⟩, h.good, h.goodW, h.low⟩
  · rw [ht.block p (Array.getElem?_eq_some_iff.1 h.box).1 hp]; exact h.box
  · rw [ht.block hb (Array.getElem?_eq_some_iff.1 h1).1 hh]; exact h1
  · rcases h.wait.2 with hn | ⟨g, cap, cur, rfl, hb', hgg, rest⟩
    · exact .inl hn
    · refine .inr ⟨g, cap, cur, rfl, hb', ?_, rest⟩
      rw [ht.block g (Array.getElem?_eq_some_iff.1 hgg).1 (hw g rfl)]; exact hgg

theorem IsDisk.adds {w w' : World} {B p hb : Nat} {wv : Value} {D : dSt} (h : IsDisk w B p hb wv D) (ht : Adds w w') : IsDisk w' B p hb wv D := h.kept ht id id (fun _ _ => id)

/-- What New tells, and leaves. -/
def PNew (w : World) (B : Nat) (n : Int) (e : Ending) (w' : World) : Prop := ∃ p hb, e = .returned (.tuple #[.pointer (some ⟨p, 0, none⟩), .int .i64 0]) ∧ w.heap.size ≤ p ∧ w.heap.size ≤ hb ∧
    IsDisk w' B p hb (.slice none 0 0) (dSt.new n) ∧ Adds w w'

set_option maxRecDepth 100000 in
set_option maxHeartbeats 400000 in
theorem new_yes (n : Int) (w : World) (B : Nat) (hB : B ≤ w.heap.size) (h1 : 1 ≤ n) (h2 : n ≤ 4096) : Calls Tryz.prog 9 #[.int .i64 n] w (PNew w B n) := by
  have hmm := @run_makeMap Tryz.prog
  have h1' : ¬ n < 1 := by omega
  have h2' : ¬ 4096 < n := by omega
  go_enter Tryz.func9, Tryz.ntmps9
  go_wp2
  go_ret2
  refine ⟨w.heap.size + 1, w.heap.size, rfl, by omega, by omega, ⟨?_, ⟨#[], 0, ?_, MapIs.nil⟩, World.ownsRow_nil _ _ _ _, ?_, ?_, by omega, hB⟩, ((Touch.refl _ w).alloc _).alloc _⟩
  · exact heap_alloc2_new w _ _
  · exact heap_alloc2_old w _ _
  · intro k; exact length_zeros
  · intro x hx; cases hx

end Go.Proofs.YtjlennpoaefllaaGreatDoor
