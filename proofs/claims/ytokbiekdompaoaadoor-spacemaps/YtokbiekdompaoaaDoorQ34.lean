/- Texts put together: GIter, GRf. -/
import Derived.RangeFuncNested
import Derived.RangeFuncBound
import Derived.RangeFuncCalls
import Derived.RangeFuncLeaves
import Derived.Shelf.Abstract
import Derived.Shelf.RegionOpen
import Derived.WalkKit
import Derived.OwnWalkIn
import Derived.TacticsInMore
import Derived.LoopNIn
import Derived.LoopIn
import Derived.Test.YtokbiekdompaoaaDoorQ33
import Derived.Maps.AppendAt
/- The bits of a map's cell, gone through by a range over a function: the iterator's contract. -/
namespace Go.Proofs.YtokbiekdompaoaaDoor
open Go.RowKit Go.Shelf
attribute [local go_sem] Oper.semAt_some

/-- What has come when n rounds are over. -/
def Ups {α : Type} (f : Nat → Bool → α) (V : Nat → Bool → Prop) (n : Nat) (xs : List α) : Prop := xs.length = n ∧ ∀ j, j < n → ∃ b, V j b ∧ xs[j]? = some (f j b)
theorem Ups.nil {α : Type} (f : Nat → Bool → α) (V : Nat → Bool → Prop) : Ups f V 0 [] := ⟨rfl, fun j hj => by cases hj⟩
set_option maxRecDepth 100000 in
theorem Ups.more {α : Type} {f : Nat → Bool → α} {V : Nat → Bool → Prop} {n : Nat} {xs : List α} (h : Ups f V n xs) {b : Bool} (hb : V n b) : Ups f V (n + 1) (xs ++ [f n b]) := by
  refine ⟨by rw [List.length_append, h.1]; rfl, fun j hj => ?_⟩
  by_cases q : j < n
  · obtain ⟨b', h1, h2⟩ := h.2 j q
    exact ⟨b', h1, by rw [List.getElem?_append_left (by rw [h.1]; exact q)]; exact h2⟩
  · obtain rfl : j = n := by omega
    exact ⟨b, hb, by rw [List.getElem?_append_right (by rw [h.1]; exact Nat.le_refl _), h.1, Nat.sub_self]; rfl⟩
theorem abides_adds {α : Type} {B : Nat} {J : List α → World → Prop} (h : AbidesFrom B J) {pre : List α} {W W' : World} (hA : Adds W W') (hJ : J pre W) : J pre W' :=
  h pre W W' none hJ ⟨hA.os, hA.tape, hA.output, hA.size, fun k hk _ => hA.block k hk id⟩ (fun r e => by cases e)

set_option maxRecDepth 100000 in
set_option maxHeartbeats 2000000 in
theorem bits1_stops {α : Type} {len cap k g o Bc Bk : Nat} (n : Nat) (hn : 1 ≤ n) (encs : α → Array Value) (f : Nat → Bool → α) (V : Nat → Bool → Prop)
    (hf : ∀ j b, j < 8 * len → encs (f j b) = #[.int .i64 ((1920 * k + j : Nat) : Int), .bool b]) (G0 : World → Prop) (Kp : World → World → Prop) (w : World)
    (hG : ∀ W, G0 W → W.cell? ⟨Bc, 0, none⟩ = some (.slice (some ⟨g, o, none⟩) len cap) ∧ W.cell? ⟨Bk, 0, none⟩ = some (.int .i64 (k : Int)) ∧ ∃ bs, bs.length = len ∧ At W (some ⟨g, o, none⟩) bs ∧ ∀ j, j < 8 * len → V j (G.bit bs j))
    (hGw : ∀ W, Below w.heap.size w W → G0 W) (hGA : ∀ W W', G0 W → Adds W W' → G0 W') (hGK : ∀ W W', G0 W → Kp W W' → G0 W') (hlen : len ≤ 240) (hk : k ≤ 1000) :
    SeqStopsK Fence.wide n Tryd.prog 43 #[Ptr Bc, Ptr Bk] encs Kp (Ups f V (8 * len)) (fun pre => ∃ j, j < 8 * len ∧ Ups f V (j + 1) pre) (8 * len) w := fun l J Jx W hW hJ hJx hY h0 => by
  have hG0 := hGw W hW
  obtain ⟨c1, c2, bs0, _, _, _⟩ := hG W hG0
  refine callsIn_of_wp Tryd.func43 rfl trivial ?_ rfl
  simp only [Tryd.ntmps43, List.size_toArray, List.length_cons, List.length_nil, Nat.reduceAdd, Nat.reduceSub, Array.replicate_succ, Array.replicate_zero, List.push_toArray, List.append_toArray, List.nil_append, List.cons_append]
  gi_wp2
  clear c1 c2
  gi_loopw [9] (fun i wr => ∃ (j : Nat) (pre : List α), i = .int .i64 (j : Int) ∧ j ≤ 8 * len ∧ Hid (Ups f V j pre ∧ J pre wr ∧ G0 wr)) (fun i _ => 8 * len - (intOf i).toNat)
  case atStart =>
    exact ⟨0, [], rfl, Nat.zero_le _, Ups.nil f V, h0, hG0⟩
  case round =>
    obtain ⟨j, pre, rfl, hj, HI⟩ := hrel
    by_cases hlt : j < 8 * len
    · have hlt' : (j : Int) < 8 * (len : Int) := by omega
      obtain ⟨c1, c2, bs, hbl, hA, hV⟩ := hG wr HI.out.2.2
      have HT := isTaken_any wr g o cap bs len hbl (1920 * k + j) (by omega) hA (by omega)
      rw [show (1920 * k + j) % 1920 = j by omega, show ((1920 * k + j : Nat) : Int) = 1920 * (k : Int) + (j : Int) by omega] at HT
      have HT := hid HT
      have HV := hid (hV j hlt)
      generalize G.bit bs j = b at HT HV
      clear hA hV
      have hj2 : (j : Int) < 2000 := by omega
      have hk2 : (k : Int) ≤ 1000 := by omega
      gi_wp2_with (refine ⟨trivial, ?_⟩; gi_at_call 31; refine (callsIn_wide.2 HT.out).mono ?_; rintro e w1 ⟨rfl, m, hw⟩; have HA := hid (show Adds wr w1 by rw [hw]; exact adds_drewN wr m); clear hw; obtain ⟨fn, tmps, assign, body, hy, hR⟩ := hY pre (f j b) w1 (abides_adds hJ HA.out HI.out.2.1) (by rw [HI.out.1.1]; exact hlt); rw [hf j b hlt, show ((1920 * k + j : Nat) : Int) = 1920 * (k : Int) + (j : Int) by omega] at hy)
      refine hR.mono ?_
      rintro e W3 (⟨rfl, hJ3, hk3⟩ | ⟨rfl, hJx3⟩)
      · have HN := hid (And.intro (HI.out.1.more HV.out) (And.intro hJ3 (hGK _ _ (hGA _ _ HI.out.2.2 HA.out) hk3)))
        clear hJ3 hk3 hy hR
        gi_wp2
        go_roundw
        case rel => exact ⟨j + 1, pre ++ [f j b], by go_num, by omega, HN.out⟩
        case measure => simp [intOf]; omega
      · clear hy hR
        gi_wp2
        refine bodyPost_ret (results_none rfl _ _ _) rfl ?_
        exact ⟨⟨_, rfl⟩, .inr ⟨_, ⟨j, hlt, HI.out.1.more HV.out⟩, hJx3⟩⟩
    · obtain rfl : j = 8 * len := by omega
      gi_wp2
      go_end0
      exact ⟨⟨_, rfl⟩, .inl ⟨pre, HI.out.1, HI.out.2.1⟩⟩
end Go.Proofs.YtokbiekdompaoaaDoor

/- A function that ranges over a map's bits: what its walk needs. -/
namespace Go.Proofs.YtokbiekdompaoaaDoor
open Go.RowKit Go.Shelf
attribute [local go_sem] Oper.semAt_some

set_option maxRecDepth 100000 in
set_option maxHeartbeats 400000 in
theorem bits_any (w : World) (k : Nat) (v : Value) (hv : ∃ a n c, v = .slice a n c) : Calls Tryd.prog 30 #[.int .i64 (k : Int), v] w (fun e w' => e = .returned (.func (.func 43) #[] #[Ptr (w.heap.size + 1), Ptr w.heap.size]) ∧ w' = (w.alloc (.cells #[.int .i64 (k : Int)] 3)).alloc (.cells #[v] 55)) := by
  obtain ⟨a, n, c, rfl⟩ := hv
  go_enter Tryd.func30, Tryd.ntmps30
  go_wp2_with fail
  go_ret
  exact ⟨rfl, rfl⟩
/-- What the body of a function that holds a range over a function must achieve. -/
def pm (fn : Func) (R : Ending → World → Prop) : Exit → Act → World → Prop
  | .normal, a, w => LeavesInM Fence.wide 9 Tryd.prog fn a.tmps R a.defers .returning w
  | .ret, a, w => LeavesInM Fence.wide 9 Tryd.prog fn a.tmps R a.defers .returning w
  | _, _, _ => False
theorem pm_marks {fn : Func} {R : Ending → World → Prop} : ∀ (e : Exit) (a : Act) (w : World), pm fn R e a w → bodyPostM Fence.wide 9 Tryd.prog fn R e a w
  | .normal, _, _, h => h
  | .ret, _, _, h => h
  | .panic _, _, _, h => h.elim
  | .outgrown, _, _, h => h.elim
  | .exit _, _, _, h => h.elim
  | .goto _, _, _, h => h.elim
/-- A function that holds a range over a function, walked outside of it as any other. -/
theorem calls_marks {f : FuncId} {fn : Func} {c : Code} {args : Array Value} {w : World} {R : Ending → World → Prop} (hf : Tryd.prog.funcs[f]? = some fn) (hb : fn.body = some c)
    (h : c.wp Tryd.prog (pm fn R) { tmps := args ++ Array.replicate (fn.ntmps - args.size) undef, defers := [] } w) : Calls Tryd.prog f args w R :=
  (callsIn_wide (n := 9)).1 (callsIn_of_wp_marks hf hb trivial (wpIn_mono (wpIn_wide.2 h) pm_marks) rfl)
/-- What a round keeps: some blocks as they are. -/
def Kp3 (L : List Nat) (W W' : World) : Prop := ∀ j ∈ L, W'.heap[j]? = W.heap[j]?
theorem kp3_t {L : List Nat} {A B C : World} (h : Kp3 L A B) (k : Kp3 L B C) : Kp3 L A C := fun j hj => (k j hj).trans (h j hj)
theorem kp3_b {L : List Nat} {w : World} (hL : ∀ j ∈ L, j < w.heap.size) (W : World) (l : Nat) (o o' : Obj) (hl : w.heap.size ≤ l) (_ : W.heap[l]? = some o) (_ : o.isCells = false) (_ : o.isWalk = false) : Kp3 L W (W.putObj l o') := fun j hj => World.putObj_heap_other (by have := hL j hj; omega)
theorem kp3_adds {L : List Nat} {W W' : World} (hL : ∀ j ∈ L, j < W.heap.size) (hA : Adds W W') : Kp3 L W W' := fun j hj => hA.block j (hL j hj) id
abbrev encX (x : Nat × Bool) : Array Value := #[.int .i64 (x.1 : Int), .bool x.2]
abbrev fX (k : Nat) (j : Nat) (b : Bool) : Nat × Bool := (1920 * k + j, b)
set_option maxRecDepth 100000 in
/-- The bits as they lie in memory. -/
theorem bits_reads {w wN : World} {g o len cap k : Nat} {bs : List UInt8} (hN : wN = (w.alloc (.cells #[.int .i64 (k : Int)] 3)).alloc (.cells #[.slice (some ⟨g, o, none⟩) len cap] 55)) (hA : At w (some ⟨g, o, none⟩) bs) (hl : bs.length = len) (h1 : 1 ≤ len) (hlen : len ≤ 240) (hk : k ≤ 1000) (n : Nat) (hn : 1 ≤ n) :
    SeqStopsK Fence.wide n Tryd.prog 43 #[Ptr (w.heap.size + 1), Ptr w.heap.size] encX (Kp3 [g, w.heap.size, w.heap.size + 1]) (Ups (fX k) (fun j b => b = G.bit bs j) (8 * len)) (fun pre => ∃ j, j < 8 * len ∧ Ups (fX k) (fun j b => b = G.bit bs j) (j + 1) pre) (8 * len) wN := by
  have hg : g < w.heap.size := by
    obtain ⟨b', o', e, hc⟩ := hA 0 (bs[0]'(by omega)) (by simp)
    cases e
    exact World.block_lt_of_cell? w _ hc
  have hz : wN.heap.size = w.heap.size + 2 := by rw [hN]; simp
  have hlt : ∀ W, Kp3 [g, w.heap.size, w.heap.size + 1] wN W → ∀ j ∈ [g, w.heap.size, w.heap.size + 1], j < W.heap.size := fun W hW j hj => by
    have h2 := hW j hj
    rw [Array.getElem?_eq_getElem (by simp at hj; omega : j < wN.heap.size)] at h2
    exact (Array.getElem?_eq_some_iff.1 h2).1
  refine bits1_stops (len := len) (cap := cap) (k := k) (g := g) (o := o) n hn encX (fX k) _ (fun j b _ => rfl) (fun W => Kp3 [g, w.heap.size, w.heap.size + 1] wN W) _ wN (fun W hW => ?_) (fun W hW j hj => hW.block j (by simp at hj; omega)) (fun W W' h hA => kp3_t h (kp3_adds (hlt W h) hA)) (fun W W' h hK => kp3_t h hK) hlen hk
  have e0 := hW g (by simp)
  have e1 := hW w.heap.size (by simp)
  have e2 := hW (w.heap.size + 1) (by simp)
  refine ⟨?_, ?_, bs, hl, hA.block (fun b' o' e hb => ?_), fun j _ => rfl⟩
  · rw [World.cell?_of_block (w := wN) e2, hN, cellOf (heap_alloc2_new w _ _)]; rfl
  · rw [World.cell?_of_block (w := wN) e1, hN, cellOf (heap_alloc2_old w _ _)]; rfl
  · cases e
    rw [e0, hN, Below.heap_alloc _ _ _ (by simp; omega), Below.heap_alloc _ _ _ hg]
set_option maxRecDepth 100000 in
theorem box2 (wA : World) (t : TypeId) (u v : Value) : Boxed ((wA.alloc (.cells #[u] t)).alloc (.cells #[v] t)).drew wA.heap.size t u ∧ Boxed ((wA.alloc (.cells #[u] t)).alloc (.cells #[v] t)).drew (wA.heap.size + 1) t v := by
  have h := Boxed.new (wA.alloc (.cells #[u] t)) t v
  rw [World.size_alloc] at h
  exact ⟨(Boxed.new wA t u).alloc _, h⟩
end Go.Proofs.YtokbiekdompaoaaDoor
