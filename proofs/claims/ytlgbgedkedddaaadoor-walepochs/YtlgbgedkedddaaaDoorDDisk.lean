/- What a disk is in memory, and New. -/
import Derived.Test.YtlgbgedkedddaaaDoorDFill
namespace Go.Proofs.YtlgbgedkedddaaaDoor
open Go.RowKit

/-- A disk's state: how many sectors, what they hold, the writes that wait, the steps, how many are left. -/
structure dSt where
  size : Int
  H : Int → List UInt8
  W : List (Int × List UInt8)
  steps : Int
  left : Int

/-- A waiting write as cells. -/
def wcells (x : Int × List UInt8) : List Value := .int .i64 x.1 :: S x.2
/-- The waiting writes as cells. -/
def dflat (W : List (Int × List UInt8)) : List Value := W.flatMap wcells

/-- At p lies a disk in the state D: its map in block hb, its waiting writes in the slice wv; none of its blocks is below B. -/
structure IsDisk (w : World) (B p hb : Nat) (wv : Value) (D : dSt) : Prop where
  box : w.heap[p]? = some (.cells #[.int .i64 D.size, .map (some hb), wv, .int .i64 D.steps, .int .i64 D.left] 27 (0, 0))
  held : ∃ es clock, w.heap[hb]? = some (.map es clock) ∧ MapIs es.toList D.H
  wait : w.ownsRow B 75 257 wv D.W.length (dflat D.W)
  good : ∀ k, (D.H k).length = 256
  goodW : ∀ x ∈ D.W, x.2.length = 256
  low : B ≤ p ∧ B ≤ hb

/-- A new disk's state. -/
def dSt.new (n : Int) : dSt := { size := n, H := fun _ => zeros, W := [], steps := 0, left := -1 }

set_option maxRecDepth 100000 in
theorem IsDisk.kept {w w' : World} {B p hb : Nat} {wv : Value} {D : dSt} (h : IsDisk w B p hb wv D) {T : Nat → Prop} (ht : Touch T w w') (hp : ¬ T p) (hh : ¬ T hb) (hw : ∀ k, wv.ownBlock = some k → ¬ T k) : IsDisk w' B p hb wv D := by
  obtain ⟨es, clock, h1, h2⟩ := h.held
  refine ⟨?_, ⟨es, clock, ?_, h2⟩, ⟨h.wait.1, ?_⟩, h.good, h.goodW, h.low⟩
  · rw [ht.block p (Array.getElem?_eq_some_iff.1 h.box).1 hp]; exact h.box
  · rw [ht.block hb (Array.getElem?_eq_some_iff.1 h1).1 hh]; exact h1
  · rcases h.wait.2 with hn | ⟨g, cap, cur, rfl, hb', hgg, rest⟩
    · exact .inl hn
    · refine .inr ⟨g, cap, cur, rfl, hb', ?_, rest⟩
      rw [ht.block g (Array.getElem?_eq_some_iff.1 hgg).1 (hw g rfl)]; exact hgg

theorem IsDisk.adds {w w' : World} {B p hb : Nat} {wv : Value} {D : dSt} (h : IsDisk w B p hb wv D) (ht : Adds w w') : IsDisk w' B p hb wv D := h.kept ht id id (fun _ _ => id)

set_option maxRecDepth 100000 in
set_option maxHeartbeats 400000 in
theorem new_no (n : Int) (w : World) (h : n < 1 ∨ 4096 < n) : Calls Tryd.prog 35 #[.int .i64 n] w fun e w' => e = .returned (.tuple #[.pointer none, .int .i64 2]) ∧ w' = w := by
  by_cases h1 : n < 1
  · go_enter Tryd.func35, Tryd.ntmps35
    go_wp2
    go_ret2
    exact ⟨rfl, rfl⟩
  · have h2 : 4096 < n := by omega
    go_enter Tryd.func35, Tryd.ntmps35
    go_wp2
    go_ret2
    exact ⟨rfl, rfl⟩

/-- What New tells, and leaves. -/
def PNew (w : World) (B : Nat) (n : Int) (e : Ending) (w' : World) : Prop := ∃ p hb, e = .returned (.tuple #[.pointer (some ⟨p, 0, none⟩), .int .i64 0]) ∧ w.heap.size ≤ p ∧ w.heap.size ≤ hb ∧
    IsDisk w' B p hb (.slice none 0 0) (dSt.new n) ∧ Adds w w'

set_option maxRecDepth 100000 in
set_option maxHeartbeats 400000 in
theorem new_yes (n : Int) (w : World) (B : Nat) (hB : B ≤ w.heap.size) (h1 : 1 ≤ n) (h2 : n ≤ 4096) : Calls Tryd.prog 35 #[.int .i64 n] w (PNew w B n) := by
  have hmm := @run_makeMap Tryd.prog
  have h1' : ¬ n < 1 := by omega
  have h2' : ¬ 4096 < n := by omega
  go_enter Tryd.func35, Tryd.ntmps35
  go_wp2
  go_ret2
  refine ⟨w.heap.size + 1, w.heap.size, rfl, by omega, by omega, ⟨?_, ⟨#[], 0, ?_, MapIs.nil⟩, World.ownsRow_nil _ _ _ _, ?_, ?_, by omega, hB⟩, ((Touch.refl _ w).alloc _).alloc _⟩
  · exact heap_alloc2_new w _ _
  · exact heap_alloc2_old w _ _
  · intro k; exact length_zeros
  · intro x hx; cases hx

end Go.Proofs.YtlgbgedkedddaaaDoor
