/- The reference's Parse: its state. -/
import Derived.Test.YtidkmamjhpckgaaDoorRBytes
import Derived.Test.YtidkmamjhpckgaaDoorRPMath
import Derived.Test.YtidkmamjhpckgaaDoorPReg2
namespace Go.Proofs.YtidkmamjhpckgaaDoor
open Go.RowKit

theorem IsS.above {w w' : World} {T : Nat → Prop} {p : Nat} {s : M.St} (h : IsS w p s) (hT : Touch T w w') (hp : ∀ k, T k → p < k) : IsS w' p s := by
  obtain ⟨a, cap, hb, hL⟩ := h.box
  exact ⟨⟨a, cap, hT.at' hb (fun c => by have := hp p c; omega), ⟨hL.at_.block (fun b o e hb => hT.block b hb (fun c => by have h1 : b < p := (hL.low _ e).2; have := hp b c; omega)), hL.room, hL.non, hL.low⟩⟩, h.good, h.len, h.err⟩
theorem rfixed_put {p : Nat} {l : List UInt8} {w : World} (z : Int) (k : Nat) (x : Nat) (hz : M.clamp z = k) (hl : k ≤ l.length) (hx : M.unfix (l.take k) = x) (h : IsS w p ⟨0, l⟩) : Calls Tryd.prog 33 #[Ptr p, .int .i64 z] w (PS w p (.int .u64 (x : Int)) ⟨0, l.drop k⟩) := by
  have q := rfixed_any z h
  rw [fixedR_ok hz hl, hx] at q
  exact q
/-- What Parse has found so far: the result's box R, the reader P, the page's box G. -/
structure Ps (w wi : World) (B : Nat) (l : List UInt8) (no kd : Int) (v : Value) : Prop where
  rd : IsS wi (B + 1) ⟨0, l⟩
  pg : wi.heap[B + 2]? = some (.cells #[.int .i64 no, .int .u8 kd, v] 47 (0, 0))
  rs : wi.heap[B]? = some (.cells #[.int .i64 0, .int .u8 0, .slice none 0 0] 47 (0, 0))
  adds : Adds w wi
  base : B = w.heap.size
theorem Ps.reader {w wi w' : World} {B : Nat} {l l' : List UInt8} {no kd : Int} {v : Value} (h : Ps w wi B l no kd v) (hr : IsS w' (B + 1) ⟨0, l'⟩) (hT : Touch (Own1 (.pointer (some ⟨B + 1, 0, none⟩))) wi w') : Ps w w' B l' no kd v := by
  have ho : ∀ k, Own1 (.pointer (some ⟨B + 1, 0, none⟩)) k → k = B + 1 := fun k c => by simp only [Own1, Value.pointer.injEq, Option.some.injEq, Addr.mk.injEq] at c; omega
  exact ⟨hr, hT.at' h.pg (fun c => by have := ho _ c; omega), hT.at' h.rs (fun c => by have := ho _ c; omega), h.adds.then hT (fun i hi c => by have := ho _ c; have := h.base; omega), h.base⟩
theorem Ps.up {w wi w' : World} {T : Nat → Prop} {B : Nat} {l : List UInt8} {no kd : Int} {v : Value} (h : Ps w wi B l no kd v) (hT : Touch T wi w') (hn : ∀ k, T k → B + 2 < k) : Ps w w' B l no kd v :=
  ⟨h.rd.above hT (fun k c => by have := hn k c; omega), hT.at' h.pg (fun c => by have := hn _ c; omega), hT.at' h.rs (fun c => by have := hn _ c; omega), h.adds.then hT (fun i hi c => by have := hn _ c; have := h.base; omega), h.base⟩
theorem Ps.add {w wi w' : World} {B : Nat} {l : List UInt8} {no kd : Int} {v : Value} (h : Ps w wi B l no kd v) (hT : Adds wi w') : Ps w w' B l no kd v := h.up hT (fun _ c => c.elim)
theorem Ps.put {w wi : World} {B : Nat} {l : List UInt8} {no kd no' kd' : Int} {v v' x : Value} (h : Ps w wi B l no kd v) (j : Nat) (e : (#[.int .i64 no, .int .u8 kd, v] : Array Value).setIfInBounds j x = #[.int .i64 no', .int .u8 kd', v']) : Ps w (wi.setCell ⟨B + 2, j, none⟩ x) B l no' kd' v' := by
  have hT : Touch (fun k => k = B + 2) wi (wi.setCell ⟨B + 2, j, none⟩ x) := Touch.setCell (T := fun k => k = B + 2) (Touch.refl _ wi) (p := ⟨B + 2, j, none⟩) (fun _ => rfl) _
  refine ⟨h.rd.above hT (fun k c => by omega), ?_, hT.at' h.rs (by omega), h.adds.then hT (fun i hi c => by have := h.base; omega), h.base⟩
  rw [heap_setCell_same wi (B + 2) j _ 47 _ h.pg, e]
theorem Ps.cell {w wi : World} {B : Nat} {l : List UInt8} {no kd : Int} {v : Value} (h : Ps w wi B l no kd v) : (wi.cell? ⟨B + 2, 0, none⟩ = some (.int .i64 no) ∧ wi.cell? ⟨B + 2, 1, none⟩ = some (.int .u8 kd) ∧ wi.cell? ⟨B + 2, 2, none⟩ = some v) ∧ (wi.frozen? ⟨B + 2, 0, none⟩ = false ∧ wi.frozen? ⟨B + 2, 1, none⟩ = false ∧ wi.frozen? ⟨B + 2, 2, none⟩ = false) :=
  ⟨⟨by have q := cellOf h.pg 0; simpa using q, by have q := cellOf h.pg 1; simpa using q, by have q := cellOf h.pg 2; simpa using q⟩, frozen_of_row wi _ 0 _ 47 h.pg, frozen_of_row wi _ 1 _ 47 h.pg, frozen_of_row wi _ 2 _ 47 h.pg⟩
theorem Ps.res {w wi : World} {B : Nat} {l : List UInt8} {no kd : Int} {v : Value} (h : Ps w wi B l no kd v) : (wi.cell? ⟨B, 0, none⟩ = some (.int .i64 0) ∧ wi.cell? ⟨B, 1, none⟩ = some (.int .u8 0) ∧ wi.cell? ⟨B, 2, none⟩ = some (.slice none 0 0)) ∧ (wi.frozen? ⟨B, 0, none⟩ = false ∧ wi.frozen? ⟨B, 1, none⟩ = false ∧ wi.frozen? ⟨B, 2, none⟩ = false) :=
  ⟨⟨by have q := cellOf h.rs 0; simpa using q, by have q := cellOf h.rs 1; simpa using q, by have q := cellOf h.rs 2; simpa using q⟩, frozen_of_row wi _ 0 _ 47 h.rs, frozen_of_row wi _ 1 _ 47 h.rs, frozen_of_row wi _ 2 _ 47 h.rs⟩
/-- What Parse tells. -/
def PParse (w : World) (bs : List UInt8) (e : Ending) (w' : World) : Prop := ∃ va vc, ∃ hs : List Part, e = .returned (.tuple #[.agg #[.int .i64 (M.noP bs : Int), .int .u8 ((M.kindP bs).toNat : Int), .slice va hs.length vc], .bool (M.readP bs).isSome]) ∧ Hid (hs.map (·.bs) = M.cellsP bs ∧ GQ w' (fun _ => True) ⟨va, vc, hs⟩ ∧ Adds w w' ∧ hs.length ≤ vc)
theorem PParse.no {w w' : World} {bs : List UInt8} (h : M.readP bs = none) (hA : Adds w w') : PParse w bs (.returned (.tuple #[.agg #[.int .i64 0, .int .u8 0, .slice none 0 0], .bool false])) w' := by
  obtain ⟨h1, h2, h3, _⟩ := M.none_all h
  exact ⟨none, 0, [], by rw [h1, h2, h]; rfl, by rw [h3]; rfl, GQ.nil _, hA, Nat.le_refl _⟩
/-- The result's three cells stored. -/
theorem res_adds {w wi : World} {B : Nat} (hB : B = w.heap.size) (hA : Adds w wi) (x y z : Value) : Adds w (((wi.setCell ⟨B, 0, none⟩ x).setCell ⟨B, 1, none⟩ y).setCell ⟨B, 2, none⟩ z) := by
  subst hB
  exact ((hA.setCell (fun h => absurd h (Nat.lt_irrefl _)) _).setCell (fun h => absurd h (Nat.lt_irrefl _)) _).setCell (fun h => absurd h (Nat.lt_irrefl _)) _
set_option maxRecDepth 100000 in
set_option maxHeartbeats 1000000 in
theorem rparse_long (a : Option Addr) (bs : List UInt8) (n cap : Nat) (w : World) (hn : bs.length = n) (h : n ≠ 256) : Calls Tryd.prog 16 #[.slice a n cap] w (PParse w bs) := by
  have HN := hid (show M.readP bs = none by rw [M.readP, if_pos (by omega)])
  have h1 : ((n : Int) != 256) = true := by simp; omega
  clear h hn
  go_enter Tryd.func16, Tryd.ntmps16
  go_wp2_with fail
  refine bodyPost_ret (v := .tuple #[.agg #[.int .i64 0, .int .u8 0, .slice none 0 0], .bool false]) (by simp [results, Tryd.results16, go_sem]) rfl (PParse.no HN.out ?_)
  repeat (first | exact Touch.refl _ _ | refine Touch.alloc ?_ _ | refine Touch.setCell ?_ (fun h => absurd h (by simp)) _)
set_option maxRecDepth 100000 in
set_option maxHeartbeats 1000000 in
theorem rparse_head (b o : Nat) (bs : List UInt8) (cap : Nat) (w : World) (hn : bs.length = 256) (hA : At w (some ⟨b, o, none⟩) bs) (h : 127 < (bs.getD 0 0).toNat ∨ M.pKd bs = 0) : Calls Tryd.prog 16 #[.slice (some ⟨b, o, none⟩) 256 cap] w (PParse w bs) := by
  have HN := hid (show M.readP bs = none from M.read_not hn (by rcases h with c | c; exact .inl ((M.no_high hn).2 c); exact .inr (.inl c)))
  obtain ⟨wA, hwA⟩ : ∃ wA, wA = w.alloc (Obj.cells #[Value.int IntKind.i64 0, Value.int IntKind.u8 0, Value.slice none 0 0] 47) := ⟨_, rfl⟩
  have hA' := hA.adds (show Adds w wA by rw [hwA]; exact (Touch.refl _ w).alloc _)
  obtain ⟨_, _, ec, c0⟩ := hA' 0 (bs.getD 0 0) (by rw [List.getD_eq_getElem?_getD, List.getElem?_eq_getElem (by omega : 0 < bs.length)]; rfl)
  cases ec
  obtain ⟨_, _, ec, c4⟩ := hA' 4 (M.pKd bs) (by rw [M.pKd, List.getD_eq_getElem?_getD, List.getElem?_eq_getElem (by omega : 4 < bs.length)]; rfl)
  cases ec
  rw [hwA] at c0 c4
  rw [Nat.add_zero] at c0
  generalize bs.getD 0 0 = x0 at *
  generalize M.pKd bs = x4 at *
  clear hA hA' hwA
  by_cases h0 : 127 < x0.toNat
  · have h0' : (127 : Int) < (x0.toNat : Int) := by omega
    clear h
    go_enter Tryd.func16, Tryd.ntmps16
    go_wp2_with fail
    refine bodyPost_ret (v := .tuple #[.agg #[.int .i64 0, .int .u8 0, .slice none 0 0], .bool false]) (by simp [results, Tryd.results16, go_sem]) rfl (PParse.no HN.out ?_)
    repeat (first | exact Touch.refl _ _ | refine Touch.alloc ?_ _ | refine Touch.setCell ?_ (fun h => absurd h (by simp)) _)
  · obtain rfl : x4 = 0 := h.resolve_left h0
    have h0' : decide ((127 : Int) < (x0.toNat : Int)) = false := by simp; omega
    clear h h0
    go_enter Tryd.func16, Tryd.ntmps16
    go_wp2_with fail
    refine bodyPost_ret (v := .tuple #[.agg #[.int .i64 0, .int .u8 0, .slice none 0 0], .bool false]) (by simp [results, Tryd.results16, go_sem]) rfl (PParse.no HN.out ?_)
    repeat (first | exact Touch.refl _ _ | refine Touch.alloc ?_ _ | refine Touch.setCell ?_ (fun h => absurd h (by simp)) _)
end Go.Proofs.YtidkmamjhpckgaaDoor
