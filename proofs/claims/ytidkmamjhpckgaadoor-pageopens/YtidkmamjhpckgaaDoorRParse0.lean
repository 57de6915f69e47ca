/- The reference's Parse: what bytes are by definition, its state, its second loop's state. -/
import Derived.Test.YtidkmamjhpckgaaDoorPMath2
import Derived.Test.YtidkmamjhpckgaaDoorRBytes
import Derived.Test.YtidkmamjhpckgaaDoorPReg2
namespace Go.Proofs.YtidkmamjhpckgaaDoor.M

/-- The parts of 256 bytes. -/
def pNo (bs : List UInt8) : Nat := unfix (bs.take 4)
def pKd (bs : List UInt8) : UInt8 := bs.getD 4 0
def pN (bs : List UInt8) : Nat := (bs.getD 5 0).toNat
def pT (bs : List UInt8) : Nat := unfix ((bs.drop 6).take 2)
def pEs (bs : List UInt8) : List UInt8 := ((bs.drop 8).take 244).take (2 * pN bs)
def pAll (bs : List UInt8) : List UInt8 := ((bs.drop 8).take 244).drop (2 * pN bs)
/-- The first k cells. -/
def pCut (bs : List UInt8) (k : Nat) : Option (List (List UInt8) × Nat) := cutK (pEs bs) (pAll bs) (pT bs) k
theorem unfix4 (a b c d : UInt8) : unfix [a, b, c, d] = ((a.toNat * 256 + b.toNat) * 256 + c.toNat) * 256 + d.toNat := by simp [unfix]
theorem no_high {bs : List UInt8} (hl : bs.length = 256) : 2147483647 < pNo bs ↔ 127 < (bs.getD 0 0).toNat := by
  match bs, hl with
  | a :: b :: c :: d :: l, _ =>
    show 2147483647 < unfix [a, b, c, d] ↔ 127 < a.toNat
    rw [unfix4]
    have h1 := a.toNat_lt
    have h2 := b.toNat_lt
    have h3 := c.toNat_lt
    have h4 := d.toNat_lt
    omega
theorem read_parts {bs : List UInt8} (hl : bs.length = 256) : readP bs = if 2147483647 < pNo bs ∨ pKd bs = 0 ∨ 244 < 2 * pN bs + pT bs then none else
    match pCut bs (pN bs) with
    | none => none
    | some x => if x.2 = pT bs ∧ some0 ((pAll bs).drop (pT bs)) = false then some ⟨pNo bs, pKd bs, x.1⟩ else none := by
  have h1 : ¬ bs.length ≠ 256 := by omega
  rw [readP, if_neg h1]
  show (match cutC ((bs.drop 8).take 244) (pN bs) (pT bs) with
    | none => none
    | some cs => if 2147483647 < pNo bs ∨ pKd bs = 0 then none else some (⟨pNo bs, pKd bs, cs⟩ : Pg)) = _
  unfold cutC
  by_cases h2 : 244 < 2 * pN bs + pT bs
  · rw [if_pos h2, if_pos (.inr (.inr h2))]
  · rw [if_neg h2]
    show (match (match pCut bs (pN bs) with
      | none => none
      | some x => if x.2 = pT bs ∧ some0 ((pAll bs).drop (pT bs)) = false then some x.1 else none) with
      | none => none
      | some cs => if 2147483647 < pNo bs ∨ pKd bs = 0 then none else some (⟨pNo bs, pKd bs, cs⟩ : Pg)) = _
    cases pCut bs (pN bs) with
    | none => simp
    | some x =>
      simp only
      by_cases h3 : x.2 = pT bs ∧ some0 ((pAll bs).drop (pT bs)) = false
      · rw [if_pos h3, if_pos h3]
        simp only
        by_cases h4 : 2147483647 < pNo bs ∨ pKd bs = 0
        · rw [if_pos h4, if_pos (by rcases h4 with c | c; exact .inl c; exact .inr (.inl c))]
        · rw [if_neg h4, if_neg (fun c => by rcases c with c | c | c; exact h4 (.inl c); exact h4 (.inr c); exact h2 c)]
      · rw [if_neg h3, if_neg h3]
        simp
/-- Where the reference's reader stands. -/
theorem es_take {bs : List UInt8} {k : Nat} (hk : k < pN bs) (h : 2 * pN bs ≤ 244) : ((pEs bs).drop (2 * k)).take 2 = (bs.drop (8 + 2 * k)).take 2 := by
  unfold pEs
  rw [List.take_take, Nat.min_eq_left h, List.drop_take, List.drop_drop, List.take_take, Nat.min_eq_left (by omega)]
theorem all_take {bs : List UInt8} (h : 2 * pN bs + pT bs ≤ 244) : (pAll bs).take (pT bs) = (bs.drop (8 + 2 * pN bs)).take (pT bs) := by
  unfold pAll
  rw [List.drop_take, List.drop_drop, List.take_take, Nat.min_eq_left (by omega)]
theorem cut_cuts {bs : List UInt8} (hl : bs.length = 256) (h : 2 * pN bs + pT bs ≤ 244) {k : Nat} (hk : k ≤ pN bs) {cs : List (List UInt8)} {b : Nat} (hc : pCut bs k = some (cs, b)) : Cuts (pEs bs) (pAll bs) (pT bs) k cs b :=
  cutK_is (by unfold pAll; rw [List.length_drop, List.length_take, List.length_drop]; omega) k cs b (by unfold pEs; rw [List.length_take, List.length_take, List.length_drop]; omega) hc
/-- A cell as the reference reads it. -/
theorem cell_read {L : List UInt8} {cs : List (List UInt8)} (h : cs.flatten = L.take cs.flatten.length) {i : Nat} {c : List UInt8} (hc : cs[i]? = some c) : (L.drop (cs.take i).flatten.length).take c.length = c := by
  have e2 : cs = cs.take i ++ ([c] ++ cs.drop (i + 1)) := by
    have e1 : cs.take (i + 1) = cs.take i ++ [c] := by rw [List.take_add_one, hc]; rfl
    rw [← List.append_assoc, ← e1, List.take_append_drop]
  have e3 : cs.flatten = (cs.take i).flatten ++ (c ++ (cs.drop (i + 1)).flatten) := by
    conv => lhs; rw [e2]
    simp
  have e4 : (cs.flatten.drop (cs.take i).flatten.length).take c.length = c := by
    rw [e3, List.drop_left' rfl, List.take_left' rfl]
  rw [h, List.drop_take, List.take_take] at e4
  have hle : c.length ≤ cs.flatten.length - (cs.take i).flatten.length := by
    rw [e3, List.length_append, List.length_append]; omega
  rwa [Nat.min_eq_left hle] at e4
/-- What is found in the end. -/
theorem read_last {bs : List UInt8} (hl : bs.length = 256) (h1 : ¬ 2147483647 < pNo bs) (h2 : pKd bs ≠ 0) (h3 : 2 * pN bs + pT bs ≤ 244) {cs : List (List UInt8)} (hc : pCut bs (pN bs) = some (cs, pT bs)) :
    (⟨pNo bs, pKd bs, cs⟩ : Pg).Ok ∧ readP bs = if pfirst ⟨pNo bs, pKd bs, cs⟩ = bs.take 252 then some ⟨pNo bs, pKd bs, cs⟩ else none := by
  have q := cut_cuts hl h3 (Nat.le_refl _) hc
  have hok : (⟨pNo bs, pKd bs, cs⟩ : Pg).Ok := ⟨by show pNo bs < _; omega, h2, by show taken cs ≤ 244; rw [taken, q.n, q.at_]; exact h3⟩
  refine ⟨hok, ?_⟩
  by_cases he : pfirst ⟨pNo bs, pKd bs, cs⟩ = bs.take 252
  · rw [if_pos he]
    exact read_of hok hl he.symm
  · rw [if_neg he, read_parts hl, if_neg (fun c => by rcases c with c | c | c; exact h1 c; exact h2 c; omega), hc]
    simp only
    by_cases h4 : some0 ((pAll bs).drop (pT bs)) = false
    · exfalso
      have hr : readP bs = some ⟨pNo bs, pKd bs, cs⟩ := by
        rw [read_parts hl, if_neg (fun c => by rcases c with c | c | c; exact h1 c; exact h2 c; omega), hc]
        simp only
        rw [if_pos ⟨trivial, h4⟩]
      exact he (read_ok hr).2.2.symm
    · rw [if_neg (fun c => h4 c.2)]
theorem read_not {bs : List UInt8} (hl : bs.length = 256) (h : 2147483647 < pNo bs ∨ pKd bs = 0 ∨ 244 < 2 * pN bs + pT bs) : readP bs = none := by
  rw [read_parts hl, if_pos h]
theorem read_none {bs : List UInt8} (hl : bs.length = 256) (h : pCut bs (pN bs) = none) : readP bs = none := by
  rw [read_parts hl, h]; simp
theorem read_rest {bs : List UInt8} (hl : bs.length = 256) {cs : List (List UInt8)} {b : Nat} (h : pCut bs (pN bs) = some (cs, b)) (hb : b ≠ pT bs) : readP bs = none := by
  rw [read_parts hl, h]
  split
  · rfl
  · exact if_neg (fun c => hb c.1)
end Go.Proofs.YtidkmamjhpckgaaDoor.M

namespace Go.Proofs.YtidkmamjhpckgaaDoor
open Go.RowKit

theorem IsS.above {w w' : World} {T : Nat → Prop} {p : Nat} {s : M.St} (h : IsS w p s) (hT : Touch T w w') (hp : ∀ k, T k → p < k) : IsS w' p s := by
  obtain ⟨a, cap, hb, hL⟩ := h.box
  exact ⟨⟨a, cap, hT.at' hb (fun c => by have := hp p c; omega), ⟨hL.at_.block (fun b o e hb => hT.block b hb (fun c => by have h1 : b < p := (hL.low _ e).2; have := hp b c; omega)), hL.room, hL.non, hL.low⟩⟩, h.good, h.len, h.err⟩
theorem rfixed_put {p : Nat} {l : List UInt8} {w : World} (z : Int) (k : Nat) (x : Nat) (hz : M.clamp z = k) (hl : k ≤ l.length) (hx : M.unfix (l.take k) = x) (h : IsS w p ⟨0, l⟩) : Calls Tryd.prog 33 #[Ptr p, .int .i64 z] w (PS w p (.int .u64 (x : Int)) ⟨0, l.drop k⟩) := by
  have q := rfixed_any z h
  rw [fixedR_ok hz hl, hx] at q
  exact q
/-- What Parse has found so far: the result's box R, the reader P, the page's box G. -/
structure Ps (w wi : World) (B : Nat) (l : List UInt8) (no kd : Int) (v : Value) : Prop where
  rd : IsS wi (B + 1) ⟨0, l⟩
  pg : wi.heap[B + 2]? = some (.cells #[.int .i64 no, .int .u8 kd, v] 47 (0, 0))
  rs : wi.heap[B]? = some (.cells #[.int .i64 0, .int .u8 0, .slice none 0 0] 47 (0, 0))
  adds : Adds w wi
  base : B = w.heap.size
theorem Ps.reader {w wi w' : World} {B : Nat} {l l' : List UInt8} {no kd : Int} {v : Value} (h : Ps w wi B l no kd v) (hr : IsS w' (B + 1) ⟨0, l'⟩) (hT : Touch (Own1 (.pointer (some ⟨B + 1, 0, none⟩))) wi w') : Ps w w' B l' no kd v := by
  have ho : ∀ k, Own1 (.pointer (some ⟨B + 1, 0, none⟩)) k → k = B + 1 := fun k c => by simp only [Own1, Value.pointer.injEq, Option.some.injEq, Addr.mk.injEq] at c; omega
  exact ⟨hr, hT.at' h.pg (fun c => by have := ho _ c; omega), hT.at' h.rs (fun c => by have := ho _ c; omega), h.adds.then hT (fun i hi c => by have := ho _ c; have := h.base; omega), h.base⟩
theorem Ps.up {w wi w' : World} {T : Nat → Prop} {B : Nat} {l : List UInt8} {no kd : Int} {v : Value} (h : Ps w wi B l no kd v) (hT : Touch T wi w') (hn : ∀ k, T k → B + 2 < k) : Ps w w' B l no kd v :=
  ⟨h.rd.above hT (fun k c => by have := hn k c; omega), hT.at' h.pg (fun c => by have := hn _ c; omega), hT.at' h.rs (fun c => by have := hn _ c; omega), h.adds.then hT (fun i hi c => by have := hn _ c; have := h.base; omega), h.base⟩
theorem Ps.add {w wi w' : World} {B : Nat} {l : List UInt8} {no kd : Int} {v : Value} (h : Ps w wi B l no kd v) (hT : Adds wi w') : Ps w w' B l no kd v := h.up hT (fun _ c => c.elim)
theorem Ps.put {w wi : World} {B : Nat} {l : List UInt8} {no kd no' kd' : Int} {v v' x : Value} (h : Ps w wi B l no kd v) (j : Nat) (e : (#[.int .i64 no, .int .u8 kd, v] : Array Value).setIfInBounds j x = #[.int .i64 no', .int .u8 kd', v']) : Ps w (wi.setCell ⟨B + 2, j, none⟩ x) B l no' kd' v' := by
  have hT : Touch (fun k => k = B + 2) wi (wi.setCell ⟨B + 2, j, none⟩ x) := Touch.setCell (T := fun k => k = B + 2) (Touch.refl _ wi) (p := ⟨B + 2, j, none⟩) (fun _ => rfl) _
  refine ⟨h.rd.above hT (fun k c => by omega), ?_, hT.at' h.rs (by omega), h.adds.then hT (fun i hi c => by have := h.base; omega), h.base⟩
  rw [heap_setCell_same wi (B + 2) j _ 47 _ h.pg, e]
theorem Ps.cell {w wi : World} {B : Nat} {l : List UInt8} {no kd : Int} {v : Value} (h : Ps w wi B l no kd v) : (wi.cell? ⟨B + 2, 0, none⟩ = some (.int .i64 no) ∧ wi.cell? ⟨B + 2, 1, none⟩ = some (.int .u8 kd) ∧ wi.cell? ⟨B + 2, 2, none⟩ = some v) ∧ (wi.frozen? ⟨B + 2, 0, none⟩ = false ∧ wi.frozen? ⟨B + 2, 1, none⟩ = false ∧ wi.frozen? ⟨B + 2, 2, none⟩ = false) :=
  ⟨⟨by have q := cellOf h.pg 0; simpa using q, by have q := cellOf h.pg 1; simpa using q, by have q := cellOf h.pg 2; simpa using q⟩, frozen_of_row wi _ 0 _ 47 h.pg, frozen_of_row wi _ 1 _ 47 h.pg, frozen_of_row wi _ 2 _ 47 h.pg⟩
theorem Ps.res {w wi : World} {B : Nat} {l : List UInt8} {no kd : Int} {v : Value} (h : Ps w wi B l no kd v) : (wi.cell? ⟨B, 0, none⟩ = some (.int .i64 0) ∧ wi.cell? ⟨B, 1, none⟩ = some (.int .u8 0) ∧ wi.cell? ⟨B, 2, none⟩ = some (.slice none 0 0)) ∧ (wi.frozen? ⟨B, 0, none⟩ = false ∧ wi.frozen? ⟨B, 1, none⟩ = false ∧ wi.frozen? ⟨B, 2, none⟩ = false) :=
  ⟨⟨by have q := cellOf h.rs 0; simpa using q, by have q := cellOf h.rs 1; simpa using q, by have q := cellOf h.rs 2; simpa using q⟩, frozen_of_row wi _ 0 _ 47 h.rs, frozen_of_row wi _ 1 _ 47 h.rs, frozen_of_row wi _ 2 _ 47 h.rs⟩
/-- What Parse tells. -/
def PParse (w : World) (bs : List UInt8) (e : Ending) (w' : World) : Prop := ∃ va vc, ∃ hs : List Part, e = .returned (.tuple #[.agg #[.int .i64 (M.noP bs : Int), .int .u8 ((M.kindP bs).toNat : Int), .slice va hs.length vc], .bool (M.readP bs).isSome]) ∧ Hid (hs.map (·.bs) = M.cellsP bs ∧ GQ w' (fun _ => True) ⟨va, vc, hs⟩ ∧ Adds w w' ∧ hs.length ≤ vc)
theorem PParse.no {w w' : World} {bs : List UInt8} (h : M.readP bs = none) (hA : Adds w w') : PParse w bs (.returned (.tuple #[.agg #[.int .i64 0, .int .u8 0, .slice none 0 0], .bool false])) w' := by
  obtain ⟨h1, h2, h3, _⟩ := M.none_all h
  exact ⟨none, 0, [], by rw [h1, h2, h]; rfl, by rw [h3]; rfl, GQ.nil _, hA, Nat.le_refl _⟩
/-- The result's three cells stored. -/
theorem res_adds {w wi : World} {B : Nat} (hB : B = w.heap.size) (hA : Adds w wi) (x y z : Value) : Adds w (((wi.setCell ⟨B, 0, none⟩ x).setCell ⟨B, 1, none⟩ y).setCell ⟨B, 2, none⟩ z) := by
  subst hB
  exact ((hA.setCell (fun h => absurd h (Nat.lt_irrefl _)) _).setCell (fun h => absurd h (Nat.lt_irrefl _)) _).setCell (fun h => absurd h (Nat.lt_irrefl _)) _
set_option maxRecDepth 100000 in
set_option maxHeartbeats 1000000 in
theorem rparse_long (a : Option Addr) (bs : List UInt8) (n cap : Nat) (w : World) (hn : bs.length = n) (h : n ≠ 256) : Calls Tryd.prog 16 #[.slice a n cap] w (PParse w bs) := by
  have HN := hid (show M.readP bs = none by rw [M.readP, if_pos (by omega)])
  have h1 : ((n : Int) != 256) = true := by simp; omega
  clear h hn
  go_enter Tryd.func16, Tryd.ntmps16
  go_wp2_with fail
  refine bodyPost_ret (v := .tuple #[.agg #[.int .i64 0, .int .u8 0, .slice none 0 0], .bool false]) (by simp [results, Tryd.results16, go_sem]) rfl (PParse.no HN.out ?_)
  repeat (first | exact Touch.refl _ _ | refine Touch.alloc ?_ _ | refine Touch.setCell ?_ (fun h => absurd h (by simp)) _)
set_option maxRecDepth 100000 in
set_option maxHeartbeats 1000000 in
theorem rparse_head (b o : Nat) (bs : List UInt8) (cap : Nat) (w : World) (hn : bs.length = 256) (hA : At w (some ⟨b, o, none⟩) bs) (h : 127 < (bs.getD 0 0).toNat ∨ M.pKd bs = 0) : Calls Tryd.prog 16 #[.slice (some ⟨b, o, none⟩) 256 cap] w (PParse w bs) := by
  have HN := hid (show M.readP bs = none from M.read_not hn (by rcases h with c | c; exact .inl ((M.no_high hn).2 c); exact .inr (.inl c)))
  obtain ⟨wA, hwA⟩ : ∃ wA, wA = w.alloc (Obj.cells #[Value.int IntKind.i64 0, Value.int IntKind.u8 0, Value.slice none 0 0] 47) := ⟨_, rfl⟩
  have hA' := hA.adds (show Adds w wA by rw [hwA]; exact (Touch.refl _ w).alloc _)
  obtain ⟨_, _, ec, c0⟩ := hA' 0 (bs.getD 0 0) (by rw [List.getD_eq_getElem?_getD, List.getElem?_eq_getElem (by omega : 0 < bs.length)]; rfl)
  cases ec
  obtain ⟨_, _, ec, c4⟩ := hA' 4 (M.pKd bs) (by rw [M.pKd, List.getD_eq_getElem?_getD, List.getElem?_eq_getElem (by omega : 4 < bs.length)]; rfl)
  cases ec
  rw [hwA] at c0 c4
  rw [Nat.add_zero] at c0
  generalize bs.getD 0 0 = x0 at *
  generalize M.pKd bs = x4 at *
  clear hA hA' hwA
  by_cases h0 : 127 < x0.toNat
  · have h0' : (127 : Int) < (x0.toNat : Int) := by omega
    clear h
    go_enter Tryd.func16, Tryd.ntmps16
    go_wp2_with fail
    refine bodyPost_ret (v := .tuple #[.agg #[.int .i64 0, .int .u8 0, .slice none 0 0], .bool false]) (by simp [results, Tryd.results16, go_sem]) rfl (PParse.no HN.out ?_)
    repeat (first | exact Touch.refl _ _ | refine Touch.alloc ?_ _ | refine Touch.setCell ?_ (fun h => absurd h (by simp)) _)
  · obtain rfl : x4 = 0 := h.resolve_left h0
    have h0' : decide ((127 : Int) < (x0.toNat : Int)) = false := by simp; omega
    clear h h0
    go_enter Tryd.func16, Tryd.ntmps16
    go_wp2_with fail
    refine bodyPost_ret (v := .tuple #[.agg #[.int .i64 0, .int .u8 0, .slice none 0 0], .bool false]) (by simp [results, Tryd.results16, go_sem]) rfl (PParse.no HN.out ?_)
    repeat (first | exact Touch.refl _ _ | refine Touch.alloc ?_ _ | refine Touch.setCell ?_ (fun h => absurd h (by simp)) _)
end Go.Proofs.YtidkmamjhpckgaaDoor

namespace Go.Proofs.YtidkmamjhpckgaaDoor
open Go.RowKit

/-- Bytes taken, where they are there. -/
def PTk (wi : World) (p : Nat) (l : List UInt8) (n : Nat) (e : Ending) (w' : World) : Prop := ∃ a cap, e = .returned (.slice a n cap) ∧ Hid (At w' a (l.take n) ∧ (a = none → cap = 0) ∧ IsS w' p ⟨0, l.drop n⟩ ∧ Touch (Own1 (.pointer (some ⟨p, 0, none⟩))) wi w')
theorem rtake_put {p : Nat} {l : List UInt8} {w : World} (n : Nat) (h : IsS w p ⟨0, l⟩) (hn : n ≤ l.length) : Calls Tryd.prog 34 #[.pointer (some ⟨p, 0, none⟩), .int .i64 (n : Int)] w (PTk w p l n) := by
  obtain ⟨a, cap, hb, hL⟩ := h.box
  refine (rtake_ok p a _ cap n w hb hn hL.room).mono ?_
  rintro e w' ⟨rfl, hw⟩
  rw [← List.length_drop] at hw
  obtain ⟨h1, h2⟩ := h.set (e := 0) (l := l.drop n) hw (hL.drop n hn) (fun h => absurd rfl h) (by rw [List.length_drop]; have h3 : l.length ≤ 1000000 := h.len; omega) (by omega)
  refine ⟨a, cap, rfl, (hL.at_.pre n).block (fun b o e hb => ?_), hL.non, h1, h2⟩
  refine h2.block b hb (fun c => ?_)
  have h3 : b < p := (hL.low _ e).2
  simp only [Own1, Value.pointer.injEq, Option.some.injEq, Addr.mk.injEq] at c
  omega
theorem own_is {w : World} {B : Nat} {e : TypeId} {v : Value} {n : Nat} {xs : List Value} (h : w.ownsRow B e 1 v n xs) {q : Nat} {u : Value} (hq : xs[q]? = some u) : ∃ g cap, v = .slice (some ⟨g, 0, none⟩) n cap ∧ w.cell? ⟨g, q, none⟩ = some u := by
  obtain ⟨a, cap, e1, _, _, hc⟩ := own_cq h
  obtain ⟨b, o, e2, hb, hcell⟩ := hc q u hq
  rcases h.2 with ⟨e3, e4⟩ | ⟨g, cap', cur, e3, _⟩
  · have := h.1; rw [e4] at this; rw [List.eq_nil_of_length_eq_zero this] at hq; simp at hq
  · rw [e1] at e3
    cases e3
    cases e2
    exact ⟨_, _, e1, by rw [Nat.zero_add] at hcell; exact hcell⟩
/-- What Parse's second loop has. -/
structure L2 (w wi : World) (B : Nat) (l : List UInt8) (no kd : Int) (v : Value) (ts : List Part) (sv : Value) (N : Nat) (zs : List Value) : Prop where
  ps : Ps w wi B l no kd v
  fr : Fresh (B + 3) wi v ts
  sz : wi.ownsRow 0 3 1 sv N zs
  hi : ∀ j, sv.ownBlock = some j → B + 2 < j
theorem L2.size {w wi : World} {B : Nat} {l : List UInt8} {no kd : Int} {v : Value} {ts : List Part} {sv : Value} {N : Nat} {zs : List Value} (h : L2 w wi B l no kd v ts sv N zs) : B + 3 ≤ wi.heap.size := lt_of_heap h.ps.pg
theorem L2.apart {w wi : World} {B : Nat} {l : List UInt8} {no kd : Int} {v : Value} {ts : List Part} {sv : Value} {N : Nat} {zs : List Value} (h : L2 w wi B l no kd v ts sv N zs) {j : Nat} (h1 : sv.ownBlock = some j) (h2 : v.ownBlock = some j) : False := by
  obtain ⟨c1, e1⟩ := row_type h.sz h1
  obtain ⟨c2, e2⟩ := row_type h.fr.rows h2
  rw [e1] at e2
  simp at e2
theorem own1_eq {p k : Nat} (h : Own1 (.pointer (some ⟨p, 0, none⟩)) k) : k = p := by
  simp only [Own1, Value.pointer.injEq, Option.some.injEq, Addr.mk.injEq] at h; omega
/-- The reader alone has turned. -/
theorem L2.take {w wi w' : World} {B : Nat} {l l' : List UInt8} {no kd : Int} {v : Value} {ts : List Part} {sv : Value} {N : Nat} {zs : List Value} (h : L2 w wi B l no kd v ts sv N zs) (hr : IsS w' (B + 1) ⟨0, l'⟩) (hT : Touch (Own1 (.pointer (some ⟨B + 1, 0, none⟩))) wi w') : L2 w w' B l' no kd v ts sv N zs :=
  ⟨h.ps.reader hr hT, h.fr.touch hT (fun k hk c => by have := own1_eq c; omega), row_touch h.sz hT (fun k hk c => by have := own1_eq c; have := h.hi k hk; omega), h.hi⟩
theorem L2.add {w wi w' : World} {B : Nat} {l : List UInt8} {no kd : Int} {v : Value} {ts : List Part} {sv : Value} {N : Nat} {zs : List Value} (h : L2 w wi B l no kd v ts sv N zs) (hA : Adds wi w') : L2 w w' B l no kd v ts sv N zs :=
  ⟨h.ps.add hA, h.fr.touch hA (fun _ _ => id), row_touch h.sz hA (fun _ _ => id), h.hi⟩
/-- The result's three cells stored beside a list. -/
theorem res_gq {wi : World} {B : Nat} {g : Pl} (h : GQ wi (fun k => B + 3 ≤ k) g) (x y z : Value) : GQ (((wi.setCell ⟨B, 0, none⟩ x).setCell ⟨B, 1, none⟩ y).setCell ⟨B, 2, none⟩ z) (fun _ => True) g := by
  have hT : Touch (fun k => k = B) wi (((wi.setCell ⟨B, 0, none⟩ x).setCell ⟨B, 1, none⟩ y).setCell ⟨B, 2, none⟩ z) := Touch.setCell (T := fun k => k = B) (Touch.setCell (T := fun k => k = B) (Touch.setCell (T := fun k => k = B) (Touch.refl _ wi) (p := ⟨B, 0, none⟩) (fun _ => rfl) x) (p := ⟨B, 1, none⟩) (fun _ => rfl) y) (p := ⟨B, 2, none⟩) (fun _ => rfl) z
  exact (h.touch hT (fun k hk c => by omega)).mono (fun _ _ _ => trivial)
/-- What the round's region reads. -/
def S26 (B : Nat) (no kd : Int) (v : Value) (sg q : Nat) (z : Int) (w' : World) : Prop := w'.heap[B + 2]? = some (.cells #[.int .i64 no, .int .u8 kd, v] 47 (0, 0)) ∧ w'.cell? ⟨sg, q, none⟩ = some (.int .i64 z)
theorem S26.touch {T : Nat → Prop} {B : Nat} {no kd : Int} {v : Value} {sg q : Nat} {z : Int} {w w' : World} (h : S26 B no kd v sg q z w) (hT : Touch T w w') (h1 : ¬ T (B + 2)) (h2 : ¬ T sg) : S26 B no kd v sg q z w' :=
  ⟨hT.at' h.1 h1, by rw [World.cell?_of_block (w := w) (hT.block sg (World.block_lt_of_cell? w _ h.2) h2)]; exact h.2⟩
/-- A cell's bytes taken, beside an empty row. -/
structure M2 (wr wX : World) (B g : Nat) (l : List UInt8) (n : Nat) (xa : Option Addr) (xc : Nat) : Prop where
  rd : IsS wX (B + 1) ⟨0, l.drop n⟩
  T : Touch (Own1 (.pointer (some ⟨B + 1, 0, none⟩))) wr wX
  row : wX.ownsRow g 5 1 (.slice (some ⟨g, 0, none⟩) 0 0) 0 []
  new : wr.heap.size ≤ g
  lt : g ≤ wX.heap.size
  at_ : At wX xa (l.take n)
  non : xa = none → xc = 0
theorem row_lit5 (w : World) : (w.alloc (.cells #[] 5)).ownsRow w.heap.size 5 1 (.slice (some ⟨w.heap.size, 0, none⟩) 0 0) 0 [] := World.ownsRow_lit (base := w.heap.size) (e := 5) (size := 1) w #[] 0 (Nat.le_refl _) (by decide) rfl
theorem M2.a {wr w' : World} {B : Nat} {l : List UInt8} {n : Nat} {xa : Option Addr} {xc : Nat} (hB : B + 3 ≤ wr.heap.size) (h : At w' xa (l.take n) ∧ (xa = none → xc = 0) ∧ IsS w' (B + 1) ⟨0, l.drop n⟩ ∧ Touch (Own1 (.pointer (some ⟨B + 1, 0, none⟩))) (wr.alloc (.cells #[] 5)) w') : M2 wr w' B wr.heap.size l n xa xc :=
  ⟨h.2.2.1, ((Touch.refl _ wr).alloc _).trans h.2.2.2, row_touch (row_lit5 wr) h.2.2.2 (fun k hk c => by have := own1_eq c; simp [Value.ownBlock] at hk; omega), Nat.le_refl _, by have := h.2.2.2.size; simp at this; omega, h.1, h.2.1⟩
theorem M2.b {wr w' : World} {B : Nat} {l : List UInt8} {n : Nat} {xa : Option Addr} {xc : Nat} (h : At w' xa (l.take n) ∧ (xa = none → xc = 0) ∧ IsS w' (B + 1) ⟨0, l.drop n⟩ ∧ Touch (Own1 (.pointer (some ⟨B + 1, 0, none⟩))) wr w') : M2 wr (w'.alloc (.cells #[] 5)) B w'.heap.size l n xa xc :=
  have hA : Adds w' (w'.alloc (.cells #[] 5)) := (Touch.refl _ w').alloc _
  ⟨h.2.2.1.above hA (fun _ c => c.elim), h.2.2.2.trans (hA.mono (fun _ _ c => c.elim)), row_lit5 w', h.2.2.2.size, by simp, h.1.adds hA, h.2.1⟩
/-- The bytes in a row of their own. -/
structure N2 (wr wY : World) (B : Nat) (l : List UInt8) (y : Part) : Prop where
  rd : IsS wY (B + 1) ⟨0, l⟩
  T : Touch (Own1 (.pointer (some ⟨B + 1, 0, none⟩))) wr wY
  pq : PQ wY (fun k => wr.heap.size ≤ k) y
theorem M2.next {wr wX wY : World} {B g : Nat} {l : List UInt8} {n m : Nat} {xa : Option Addr} {xc : Nat} {v1 : Value} (h : M2 wr wX B g l n xa xc) (hB : B + 3 ≤ wr.heap.size) (hm : (l.take n).length = m) (h1 : wY.ownsRow g 5 1 v1 m ([] ++ S (l.take n))) (h2 : wX.grownBy wY (some g)) : ∃ ya yc, v1 = .slice ya m yc ∧ PV ⟨ya, l.take n, yc⟩ = .slice ya m yc ∧ N2 wr wY B (l.drop n) ⟨ya, l.take n, yc⟩ := by
  obtain ⟨ya, yc, e1, _, hn, hq⟩ := own_cq h1
  have hT : Touch (fun k => k = g) wX wY := ⟨h2.os, h2.tape, h2.output, h2.size, fun k hk hne => h2.block k hk (fun c => hne (by cases c; rfl))⟩
  refine ⟨ya, yc, e1, by rw [← hm], h.rd.above hT (fun k c => by have := h.new; omega), ⟨h2.os.trans h.T.os, h2.tape.trans h.T.tape, h2.output.trans h.T.output, Nat.le_trans h.T.size h2.size, fun k hk hne => ?_⟩, ⟨?_, hn⟩⟩
  · rw [← h.T.block k hk hne]
    exact h2.block k (Nat.lt_of_lt_of_le hk h.T.size) (fun c => by cases c; exact absurd hk (Nat.not_lt.2 h.new))
  · have q := hq.mono (Q' := fun k => wr.heap.size ≤ k) (fun k _ c => Nat.le_trans h.new (row_low h1 c).1)
    simpa using q
/-- One more cell. -/
theorem L2.more {w wr wY wZ w5 : World} {B : Nat} {l l' : List UInt8} {no kd : Int} {v v' : Value} {ts : List Part} {sv : Value} {N : Nat} {zs : List Value} {y : Part} (h : L2 w wr B l no kd v ts sv N zs) (hN : N2 wr wY B l' y) (hA : Adds wY wZ) (hG : Grew wZ w5 22 v v' (ts.length + 1) (ts.map PV ++ [PV y])) : L2 w (w5.setCell ⟨B + 2, 2, none⟩ v') B l' no kd v' (ts ++ [y]) sv N zs := by
  have h1 := (h.take hN.rd hN.T).add hA
  have hT := hG.touch
  have hP := h1.ps.up hT (fun k c => h.fr.own k c)
  have hF : Fresh (B + 3) w5 v' (ts ++ [y]) := (h.take hN.rd hN.T).fr.more hA hG (by have := h.size; have := hN.T.size; omega) (by
    refine (hN.pq.adds hA).mono (fun k _ c => ⟨by have := h.size; omega, fun e => ?_⟩)
    have := (row_low h.fr.rows e).2
    omega)
  have hS : Touch (fun k => k = B + 2) w5 (w5.setCell ⟨B + 2, 2, none⟩ v') := Touch.setCell (T := fun k => k = B + 2) (Touch.refl _ w5) (p := ⟨B + 2, 2, none⟩) (fun _ => rfl) _
  exact ⟨hP.put 2 rfl, hF.touch hS (fun k hk c => by omega), row_touch (row_touch h1.sz hT (fun k hk c => h1.apart hk c)) hS (fun k hk c => by have := h.hi k hk; omega), h.hi⟩
theorem L2.s {w wr : World} {B : Nat} {l : List UInt8} {no kd : Int} {v : Value} {ts : List Part} {N sg sc q : Nat} {zs : List Value} {z : Int} (h : L2 w wr B l no kd v ts (.slice (some ⟨sg, 0, none⟩) N sc) N zs) (hc : wr.cell? ⟨sg, q, none⟩ = some (.int .i64 z)) : S26 B no kd v sg q z wr := ⟨h.ps.pg, hc⟩
theorem N2.s {wr wY : World} {B : Nat} {l : List UInt8} {y : Part} {no kd : Int} {v : Value} {sg q : Nat} {z : Int} (h : N2 wr wY B l y) (hS : S26 B no kd v sg q z wr) (hg : B + 2 < sg) : S26 B no kd v sg q z wY := hS.touch h.T (fun c => by have := own1_eq c; omega) (fun c => by have := own1_eq c; omega)
theorem M2.s {wr wX : World} {B g n : Nat} {l : List UInt8} {xa : Option Addr} {xc : Nat} {no kd : Int} {v : Value} {sg q : Nat} {z : Int} (h : M2 wr wX B g l n xa xc) (hS : S26 B no kd v sg q z wr) (hg : B + 2 < sg) : S26 B no kd v sg q z wX := hS.touch h.T (fun c => by have := own1_eq c; omega) (fun c => by have := own1_eq c; omega)
theorem L2.s5 {w wr wY wZ w5 : World} {B : Nat} {l l' : List UInt8} {no kd : Int} {v v' : Value} {ts : List Part} {N sg sc q : Nat} {zs : List Value} {z : Int} {y : Part} (h : L2 w wr B l no kd v ts (.slice (some ⟨sg, 0, none⟩) N sc) N zs) (hN : N2 wr wY B l' y) (hA : Adds wY wZ) {n : Nat} {xs : List Value} (hG : Grew wZ w5 22 v v' n xs) (hS : S26 B no kd v sg q z wr) : S26 B no kd v sg q z w5 :=
  ((hN.s hS (h.hi sg rfl)).touch hA id id).touch hG.touch (fun c => by have := h.fr.own _ c; omega) (fun c => h.apart (j := sg) rfl c)
theorem wp_append_b1 {w : World} {o : Oper} {act : Act} {K : Act → World → Prop} {Q : Exit → Act → World → Prop} (s x : Operand)
    (ho : o.op = .call { callee := .builtin .append, args := #[s, x], argTypes := #[32, 32] }) (v : Value) (n : Nat) (xs : List Value) (hs : act.eval s = v) (hown : w.ownsRow 0 22 1 v n xs)
    (g : Nat) (u : Value) (hx : act.eval x = .slice (some ⟨g, 0, none⟩) 1 1) (hc : w.cell? ⟨g, 0, none⟩ = some u) (hu : u.oneCell' = true) (hlen : n ≤ 10000000)
    (h : ∀ v' w', Grew w w' 22 v v' (n + 1) (xs ++ [u]) → K (act.put o.dst v') w') : o.wp Tryd.prog act w K Q := by
  obtain ⟨i0, hi, hz0, hz1, hz2⟩ := infoB
  obtain ⟨v', w', hr, h2, h3, _, h5⟩ := run_append_own_at (P := Tryd.prog) w 0 32 o.type 22 i0 (.slice none 0 0) 1 24 Tryd.underlying32 hi hz0 hz1 hz2 rfl (by decide) v n xs hown ⟨g, 0, none⟩ 1 1 [u] rfl (by
    intro j y hj
    match j, hj with
    | 0, hj =>
      obtain rfl : u = y := by simpa using hj
      rw [Addr.add_mid]; exact hc) (fun y hy => by rw [List.mem_singleton.1 hy]; exact hu) (by unfold maxLen; omega) (by omega) (Nat.zero_le _)
  unfold Oper.wp execOp
  simp only [ho, resolve, invoke, builtin, Sem.run_bind, Sem.run_pure, Result.andThen_ok, List.map_toArray, List.map_cons, List.map_nil, hs, hx, hr]
  exact h v' w' ⟨h2, h3, h5⟩
end Go.Proofs.YtidkmamjhpckgaaDoor
