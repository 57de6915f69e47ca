/- Texts put together: Order, WMem, UMath, UMem, WLeaf, WRecs, WCut. -/
import Derived.OrdersHeld
import Derived.RegionTactic
import Derived.Test.YtmmgfankbabfbaaDoorQ06
import Derived.Test.YtmmgfankbabfbaaDoorQ16
import Derived.Maps.AppendAt
import Derived.Test.YtmmgfankbabfbaaDoorQ11
import Derived.Test.YtmmgfankbabfbaaDoorQ10
/- A region that draws its order: the condition on the world is narrowed behind each call, so that what a call made is read first. -/
namespace Go.Proofs.YtmmgfankbabfbaaDoor

section
variable {P : Program} {ops : Array Oper} {Q : Exit → Act → World → Prop} {md : Region.Mode} {S : World → Prop}

/-- A narrower condition serves. -/
theorem H_narrow {S' : World → Prop} (hS : ∀ w, S' w → S w) : ∀ (fuel : Nat) (listed : Array Bool) (a : Act) (w : World), wpAnyH P md ops Q S' fuel listed a w → wpAnyH P md ops Q S fuel listed a w
  | 0, _, _, _, h => h
  | fuel + 1, _, _, _, h => ⟨h.1, fun i hi => wpOp_mono (fun a' w' h' => ⟨hS w' h'.1, H_narrow hS fuel _ a' w' h'.2⟩) (h.2 i hi)⟩
/-- Number i is taken first; the place where its value goes written out. -/
theorem H_put {i : Nat} {oi : Oper} (d : Nat) {v : Value} {fuel : Nat} {listed : Array Bool} {a : Act} {w : World} (hi : ops[i]? = some oi) (hd : oi.dst = some d)
    (hs : Region.noSelect ops = true) (hf : Region.free md ops listed i = true) (hr : (Region.ready md ops listed).contains i = true)
    (hQ : ∀ c a w, Q (.panic c) (a.put oi.dst v) w → Q (.panic c) a w) (hy : YieldsIf P ops S oi v a) (hS : S w)
    (h : wpAnyH P md ops Q S fuel (listed.setIfInBounds i true) (a.put (some d) v) w) : wpAnyH P md ops Q S (fuel + 1) listed a w :=
  wpAnyH_take hi hs hf hr hQ hy hS (by rw [hd]; exact h)
/-- A call comes up alone: by its contract; behind it another condition holds. -/
theorem H_call {i : Nat} {o : Oper} (d f : Nat) (args : Array Value) {fuel : Nat} {listed : Array Bool} {a : Act} {w : World} (hr : Region.ready md ops listed = [i]) (ho : ops[i]? = some o) (hd : o.dst = some d)
    (hw : Region.wanted o (yielded ops a.tmps) = true) (hx : (execOp a.eval o).run P w = .ok (.enter f args) w) {R : Ending → World → Prop} (hc : Calls P f args w R)
    (h : ∀ e w', R e w' → ∃ (v : Value) (S' : World → Prop), e = .returned v ∧ S' w' ∧ (∀ w, S' w → S w) ∧ wpAnyH P md ops Q S' fuel (listed.setIfInBounds i true) (a.put (some d) v) w') : wpAnyH P md ops Q S (fuel + 1) listed a w := by
  refine wpAnyH_all hr (by simp) (fun j hj => ?_)
  obtain rfl := List.mem_singleton.1 hj
  refine wpOp_step ho (fun K' hK => ?_)
  rw [if_pos hw]
  unfold Oper.wp
  rw [hx]
  refine hc.mono fun e w' hR => ?_
  obtain ⟨v, S', rfl, h1, h2, h3⟩ := h e w' hR
  refine hK _ _ ⟨h2 w' h1, H_narrow h2 _ _ _ _ ?_⟩
  rw [hd]; exact h3
/-- The beginning. -/
theorem H_begin {id : Nat} {a : Act} {w : World} (hm : P.follows .mixedOrders = true) (h : wpAnyH P .any ops Q S ops.size (Array.replicate ops.size false) a w.drew) : (Code.region id ops true).wp P Q a w := wp_region_held hm h
end
end Go.Proofs.YtmmgfankbabfbaaDoor

/- Where bytes lie, lists of them, and lists of these. -/
namespace Go.Proofs.YtmmgfankbabfbaaDoor
open Go.RowKit

/-- Cells from an address on, in blocks of Q. -/
def CQ (w : World) (Q : Nat → Prop) (a : Option Addr) (xs : List Value) : Prop := ∀ (j : Nat) (u : Value), xs[j]? = some u → ∃ b o, a = some ⟨b, o, none⟩ ∧ Q b ∧ w.cell? ⟨b, o + j, none⟩ = some u
set_option maxRecDepth 100000 in
theorem CQ.nil (w : World) (Q : Nat → Prop) (a : Option Addr) : CQ w Q a [] := by intro j u h; simp at h
set_option maxRecDepth 100000 in
theorem CQ.touch {w w' : World} {T Q : Nat → Prop} {a : Option Addr} {xs : List Value} (h : CQ w Q a xs) (ht : Touch T w w') (hn : ∀ k, Q k → ¬ T k) : CQ w' Q a xs := by
  intro j u hj
  obtain ⟨b, o, e, hq, hc⟩ := h j u hj
  exact ⟨b, o, e, hq, by rw [World.cell?_of_block (w := w) (ht.block b (World.block_lt_of_cell? w _ hc) (hn b hq))]; exact hc⟩
theorem CQ.adds {w w' : World} {Q : Nat → Prop} {a : Option Addr} {xs : List Value} (h : CQ w Q a xs) (ht : Adds w w') : CQ w' Q a xs := h.touch ht (fun _ _ => id)
set_option maxRecDepth 100000 in
theorem CQ.mono {w : World} {Q Q' : Nat → Prop} {a : Option Addr} {xs : List Value} (h : CQ w Q a xs) (hq : ∀ k, k < w.heap.size → Q k → Q' k) : CQ w Q' a xs := by
  intro j u hj
  obtain ⟨b, o, e, h1, hc⟩ := h j u hj
  exact ⟨b, o, e, hq b (World.block_lt_of_cell? w _ hc) h1, hc⟩
set_option maxRecDepth 100000 in
theorem CQ.at {w : World} {Q : Nat → Prop} {a : Option Addr} {bs : List UInt8} (h : CQ w Q a (S bs)) : At w a bs := by
  intro j c hj
  obtain ⟨b, o, e, _, hc⟩ := h j (B8 c) (by rw [S_get, hj]; rfl)
  exact ⟨b, o, e, hc⟩
set_option maxRecDepth 100000 in
theorem At.cq {w : World} {Q : Nat → Prop} {a : Option Addr} {bs : List UInt8} (h : At w a bs) (hq : ∀ b o, a = some ⟨b, o, none⟩ → Q b) : CQ w Q a (S bs) := by
  intro j u hj
  rw [S_get] at hj
  obtain ⟨c, hc, rfl⟩ := Option.map_eq_some_iff.1 hj
  obtain ⟨b, o, e, h1⟩ := h j c hc
  exact ⟨b, o, e, hq b o e, h1⟩
set_option maxRecDepth 100000 in
/-- A row's cells. -/
theorem own_cq {w : World} {base : Nat} {e : TypeId} {v : Value} {n : Nat} {xs : List Value} (h : w.ownsRow base e 1 v n xs) : ∃ a cap, v = .slice a n cap ∧ n ≤ cap ∧ (a = none → cap = 0) ∧ CQ w (fun k => v.ownBlock = some k) a xs := by
  rcases h.2 with ⟨rfl, rfl⟩ | ⟨g, cap, cur, rfl, hb, hg, hc, h2, h3, h4⟩
  · obtain rfl : xs = [] := List.eq_nil_of_length_eq_zero (by have := h.1; omega)
    exact ⟨none, 0, rfl, Nat.le_refl _, fun _ => rfl, CQ.nil _ _ _⟩
  · refine ⟨_, cap, rfl, hc, fun e => (by cases e), fun j u hj => ⟨g, 0, rfl, rfl, ?_⟩⟩
    rw [cellOf hg, Nat.zero_add]
    rw [← h4, List.getElem?_take] at hj
    split at hj
    · simpa using hj
    · cases hj

/-- A slice of bytes as a value. -/
abbrev PV (x : Part) : Value := .slice x.a x.bs.length x.cap
structure PQ (w : World) (Q : Nat → Prop) (x : Part) : Prop where
  at_ : CQ w Q x.a (S x.bs)
  non : x.a = none → x.cap = 0
theorem PQ.touch {w w' : World} {T Q : Nat → Prop} {x : Part} (h : PQ w Q x) (ht : Touch T w w') (hn : ∀ k, Q k → ¬ T k) : PQ w' Q x := ⟨h.at_.touch ht hn, h.non⟩
theorem PQ.adds {w w' : World} {Q : Nat → Prop} {x : Part} (h : PQ w Q x) (ht : Adds w w') : PQ w' Q x := ⟨h.at_.adds ht, h.non⟩
theorem PQ.mono {w : World} {Q Q' : Nat → Prop} {x : Part} (h : PQ w Q x) (hq : ∀ k, k < w.heap.size → Q k → Q' k) : PQ w Q' x := ⟨h.at_.mono hq, h.non⟩
/-- A list of slices of bytes. -/
structure Pl where
  a : Option Addr
  cap : Nat
  l : List Part
abbrev GV (g : Pl) : Value := .slice g.a g.l.length g.cap
def Pl.bs (g : Pl) : List (List UInt8) := g.l.map (·.bs)
structure GQ (w : World) (Q : Nat → Prop) (g : Pl) : Prop where
  at_ : CQ w Q g.a (g.l.map PV)
  non : g.a = none → g.cap = 0
  all : ∀ x ∈ g.l, PQ w Q x
theorem GQ.touch {w w' : World} {T Q : Nat → Prop} {g : Pl} (h : GQ w Q g) (ht : Touch T w w') (hn : ∀ k, Q k → ¬ T k) : GQ w' Q g := ⟨h.at_.touch ht hn, h.non, fun x hx => (h.all x hx).touch ht hn⟩
theorem GQ.adds {w w' : World} {Q : Nat → Prop} {g : Pl} (h : GQ w Q g) (ht : Adds w w') : GQ w' Q g := h.touch ht (fun _ _ => id)
theorem GQ.mono {w : World} {Q Q' : Nat → Prop} {g : Pl} (h : GQ w Q g) (hq : ∀ k, k < w.heap.size → Q k → Q' k) : GQ w Q' g := ⟨h.at_.mono hq, h.non, fun x hx => (h.all x hx).mono hq⟩

set_option maxRecDepth 100000 in
theorem infoB : ∃ i, Tryd.prog.info? 91 = some i ∧ i.zero = some (.slice none 0 0) ∧ i.size = 1 ∧ i.bytes = 24 := by
  have h : (Tryd.prog.info? 91).map (fun i => (i.zero, i.size, i.bytes)) = some (some (.slice none 0 0), 1, 24) := by kernel_rfl
  cases hq : Tryd.prog.info? 91 with
  | none => rw [hq] at h; cases h
  | some i =>
    rw [hq] at h
    simp only [Option.map_some, Option.some.injEq, Prod.mk.injEq] at h
    exact ⟨i, rfl, h.1, h.2.1, h.2.2⟩
set_option maxRecDepth 100000 in
theorem infoBB : ∃ i, Tryd.prog.info? 151 = some i ∧ i.zero = some (.slice none 0 0) ∧ i.size = 1 ∧ i.bytes = 24 := by
  have h : (Tryd.prog.info? 151).map (fun i => (i.zero, i.size, i.bytes)) = some (some (.slice none 0 0), 1, 24) := by kernel_rfl
  cases hq : Tryd.prog.info? 151 with
  | none => rw [hq] at h; cases h
  | some i =>
    rw [hq] at h
    simp only [Option.map_some, Option.some.injEq, Prod.mk.injEq] at h
    exact ⟨i, rfl, h.1, h.2.1, h.2.2⟩
/-- A row that has grown: it is where it was, or new. -/
def Grew (w w' : World) (e : TypeId) (v v' : Value) (n : Nat) (xs : List Value) : Prop := w'.ownsRow 0 e 1 v' n xs ∧ w.grownBy w' v.ownBlock ∧ (v'.ownBlock = v.ownBlock ∨ v'.ownBlock = some w.heap.size)
set_option maxRecDepth 100000 in
theorem append_b1 {w : World} {ops : Array Oper} {rest : List Oper} {o : Oper} {act : Act} {Q : Exit → Act → World → Prop} (hgd : o.guard = none) (s x : Operand)
    (ho : o.op = .call { callee := .builtin .append, args := #[s, x], argTypes := #[151, 151] }) (v : Value) (n : Nat) (xs : List Value) (hs : act.eval s = v) (hown : w.ownsRow 0 91 1 v n xs)
    (g : Nat) (u : Value) (hx : act.eval x = .slice (some ⟨g, 0, none⟩) 1 1) (hc : w.cell? ⟨g, 0, none⟩ = some u) (hu : u.oneCell' = true) (hlen : n ≤ 10000000)
    (h : ∀ v' w', Grew w w' 91 v v' (n + 1) (xs ++ [u]) → wpList Tryd.prog ops Q rest (act.put o.dst v') w') : wpList Tryd.prog ops Q (o :: rest) act w := by
  obtain ⟨i0, hi, hz0, hz1, hz2⟩ := infoB
  refine wpList_append_own_at _ hgd s x 151 ho 0 91 i0 (.slice none 0 0) 1 24 Tryd.underlying151 hi hz0 hz1 hz2 rfl (by decide) v n xs hs hown ⟨g, 0, none⟩ 1 1 [u] hx rfl ?_ (fun y hy => by rw [List.mem_singleton.1 hy]; exact hu) (by unfold maxLen; omega) (by omega) (Nat.zero_le _) (fun v' w' h1 h2 _ h4 => h v' w' ⟨h1, h2, h4⟩)
  intro j y hj
  match j, hj with
  | 0, hj =>
    obtain rfl : u = y := by simpa using hj
    rw [Addr.add_mid]; exact hc
set_option maxRecDepth 100000 in
theorem append_t {w : World} {ops : Array Oper} {rest : List Oper} {o : Oper} {act : Act} {Q : Exit → Act → World → Prop} (hgd : o.guard = none) (s x : Operand)
    (ho : o.op = .call { callee := .builtin .append, args := #[s, x], argTypes := #[91, 91] }) (v : Value) (n : Nat) (xs : List Value) (hs : act.eval s = v) (hown : w.ownsRow 0 5 1 v n xs)
    (ad : Addr) (bs : List UInt8) (m cap : Nat) (hm : bs.length = m) (hx : act.eval x = .slice (some ad) m cap) (hA : At w (some ad) bs) (hlen : n + m ≤ 1000000000)
    (h : ∀ v' w', Grew w w' 5 v v' (n + m) (xs ++ S bs) → wpList Tryd.prog ops Q rest (act.put o.dst v') w') : wpList Tryd.prog ops Q (o :: rest) act w := by
  obtain ⟨i0, hi, hz0, hz1, hz2⟩ := info5all
  refine wpList_append_own_at _ hgd s x 91 ho 0 5 i0 (.int .u8 0) 1 1 Tryd.underlying91 hi hz0 hz1 hz2 rfl (by decide) v n xs hs hown ad m cap (S bs) hx (by rw [length_S]; omega) ?_ (one_S bs) (by unfold maxLen; omega) (by omega) (Nat.zero_le _) (fun v' w' h1 h2 _ h4 => h v' w' ⟨h1, h2, h4⟩)
  intro j y hj
  rw [S_get] at hj
  obtain ⟨c, hc, rfl⟩ := Option.map_eq_some_iff.1 hj
  obtain ⟨b, o', e, h1⟩ := hA j c hc
  obtain rfl : ad = ⟨b, o', none⟩ := by simpa using e
  rw [Addr.add_mid]; exact h1
/-- What a row's growing touches. -/
theorem Grew.touch {w w' : World} {e : TypeId} {v v' : Value} {n : Nat} {xs : List Value} (h : Grew w w' e v v' n xs) : Touch (fun k => v.ownBlock = some k) w w' := ⟨h.2.1.os, h.2.1.tape, h.2.1.output, h.2.1.size, fun k hk hn => h.2.1.block k hk (fun c => hn c.symm)⟩
set_option maxRecDepth 100000 in
theorem Grew.lt {w w' : World} {e : TypeId} {v v' : Value} {n : Nat} {xs : List Value} (h : Grew w w' e v v' n xs) {B : Nat} (hB : B ≤ w.heap.size) (hv : ∀ k, v.ownBlock = some k → B ≤ k) : ∀ k, v'.ownBlock = some k → B ≤ k := by
  intro k hk
  rcases h.2.2 with c | c
  · exact hv k (by rw [← c]; exact hk)
  · rw [c] at hk; cases hk; exact hB
set_option maxRecDepth 100000 in
theorem row_type {w : World} {B : Nat} {e : TypeId} {v : Value} {n : Nat} {xs : List Value} (h : w.ownsRow B e 1 v n xs) {k : Nat} (hk : v.ownBlock = some k) : ∃ cur, w.heap[k]? = some (.cells cur e (0, 0)) := by
  rcases h.2 with ⟨rfl, _⟩ | ⟨g, cap, cur, rfl, hb', hgg, rest⟩
  · cases hk
  · obtain rfl : g = k := by simpa [Value.ownBlock] using hk
    exact ⟨cur, hgg⟩
set_option maxRecDepth 100000 in
theorem row_touch {w w' : World} {T : Nat → Prop} {B : Nat} {e : TypeId} {v : Value} {n : Nat} {xs : List Value} (h : w.ownsRow B e 1 v n xs) (ht : Touch T w w') (hn : ∀ k, v.ownBlock = some k → ¬ T k) : w'.ownsRow B e 1 v n xs := by
  refine ⟨h.1, ?_⟩
  rcases h.2 with hh | ⟨g, cap, cur, rfl, hb', hgg, rest⟩
  · exact .inl hh
  · refine .inr ⟨g, cap, cur, rfl, hb', ?_, rest⟩
    rw [ht.block g (Array.getElem?_eq_some_iff.1 hgg).1 (hn g rfl)]; exact hgg
set_option maxRecDepth 100000 in
theorem row_base {w : World} {B C : Nat} {e : TypeId} {v : Value} {n : Nat} {xs : List Value} (h : w.ownsRow B e 1 v n xs) (hb : ∀ k, v.ownBlock = some k → C ≤ k) : w.ownsRow C e 1 v n xs := by
  refine ⟨h.1, ?_⟩
  rcases h.2 with hh | ⟨g, cap, cur, rfl, hb', rest⟩
  · exact .inl hh
  · exact .inr ⟨g, cap, cur, rfl, hb g rfl, rest⟩
set_option maxRecDepth 100000 in
theorem row_low {w : World} {B : Nat} {e : TypeId} {v : Value} {n : Nat} {xs : List Value} (h : w.ownsRow B e 1 v n xs) {k : Nat} (hk : v.ownBlock = some k) : B ≤ k ∧ k < w.heap.size := by
  rcases h.2 with ⟨rfl, _⟩ | ⟨g, cap, cur, rfl, hb', hgg, rest⟩
  · cases hk
  · obtain rfl : g = k := by simpa [Value.ownBlock] using hk
    exact ⟨hb', (Array.getElem?_eq_some_iff.1 hgg).1⟩
set_option maxRecDepth 100000 in
theorem Touch.at' {T : Nat → Prop} {w w' : World} (h : Touch T w w') {k : Nat} {o : Obj} (hk : w.heap[k]? = some o) (hn : ¬ T k) : w'.heap[k]? = some o := by
  rw [h.block k (Array.getElem?_eq_some_iff.1 hk).1 hn]; exact hk
set_option maxRecDepth 100000 in
/-- A whole struct is stored. -/
theorem wp_store_row {P : Program} {o : Oper} {a : Act} {w : World} {K : Act → World → Prop} {Q : Exit → Act → World → Prop} (x y : Operand) (t : TypeId) (ho : o.op = .store t x y) (g : Nat) (cells old : Array Value) (u : TypeId)
    (hx : a.eval x = .pointer (some ⟨g, 0, none⟩)) (hy : a.eval y = .agg cells) (hg : w.heap[g]? = some (.cells old u (0, 0))) (hi : (P.info? t).map (·.size) = some cells.size) (hs : old.size = cells.size) (h1 : cells.all (·.oneCell') = true)
    (h : K (a.put o.dst undef) (w.setRow g cells)) : o.wp P a w K Q := by
  have hst := run_storeVar_row (P := P) w g u t old cells hg hi hs h1
  unfold Oper.wp execOp
  rw [ho]
  simp only [hx, hy, Instr.storeAt, Instr.sureAddr, Sem.run_bind, Sem.run_pure, Result.andThen_ok, hst]
  exact h
end Go.Proofs.YtmmgfankbabfbaaDoor

/- A master's slots by definition. -/
namespace Go.Proofs.YtmmgfankbabfbaaDoor
namespace U
open M
/-- The reader behind k numbers, and these. -/
def stU (s : St) : Nat → St
  | 0 => s
  | k + 1 => (uintR 18446744073709551615 (stU s k)).2
def lsU (s : St) : Nat → List Nat
  | 0 => []
  | k + 1 => lsU s k ++ [(uintR 18446744073709551615 (stU s k)).1]
def cnt (b : List UInt8) : Nat := (uintR 20 ⟨0, b⟩).1
def st0 (b : List UInt8) : St := (uintR 20 ⟨0, b⟩).2
/-- Fields as bytes. -/
def encs : List Nat → List UInt8
  | [] => []
  | n :: l => enc n ++ encs l
def pbytes (fs : List Nat) : List UInt8 := enc fs.length ++ encs fs
/-- What a slot has; nothing stands, if the epoch is 0. -/
structure Sl where
  ep : Nat
  fs : List Nat
def bad (b : List UInt8) : Prop := oErr b ≠ 0 ∨ oKind b ≠ 3 ∨ 1000000000 < oMark b
def slot (b : List UInt8) : Sl := if oErr b = 0 ∧ oKind b = 3 ∧ oMark b ≤ 1000000000 ∧ endE (stU (st0 (oBody b)) (cnt (oBody b))) = 0 then ⟨oMark b, lsU (st0 (oBody b)) (cnt (oBody b))⟩ else ⟨0, []⟩
set_option maxRecDepth 100000 in
theorem slot_no {b : List UInt8} (h : bad b) : slot b = ⟨0, []⟩ := by
  rw [slot, if_neg]
  rintro ⟨h1, h2, h3, _⟩
  rcases h with h | h | h
  · exact h h1
  · exact h h2
  · omega
set_option maxRecDepth 100000 in
theorem slot_end {b : List UInt8} (h : endE (stU (st0 (oBody b)) (cnt (oBody b))) ≠ 0) : slot b = ⟨0, []⟩ := by
  rw [slot, if_neg]
  rintro ⟨_, _, _, h4⟩
  exact h h4
set_option maxRecDepth 100000 in
theorem slot_yes {b : List UInt8} (h : ¬ bad b) (h2 : endE (stU (st0 (oBody b)) (cnt (oBody b))) = 0) : slot b = ⟨oMark b, lsU (st0 (oBody b)) (cnt (oBody b))⟩ := by
  unfold bad at h
  rw [slot, if_pos ⟨by omega, by
    by_cases h3 : oKind b = 3
    · exact h3
    · exact absurd (.inr (.inl h3)) h, by omega, h2⟩]
theorem lsU_len (s : St) : ∀ k, (lsU s k).length = k
  | 0 => rfl
  | k + 1 => by rw [lsU, List.length_append, lsU_len s k]; rfl
theorem lsU_lt (s : St) : ∀ k, ∀ n ∈ lsU s k, n < 18446744073709551616
  | 0, n, h => by cases h
  | k + 1, n, h => by
    rw [lsU] at h
    rcases List.mem_append.1 h with h | h
    · exact lsU_lt s k n h
    · rw [List.mem_singleton.1 h]; exact (uintR_lt _ _).1
theorem cnt_le (b : List UInt8) : cnt b ≤ 20 := (uintR_lt _ _).2
/-- Fields that may be. -/
structure Fit (fs : List Nat) : Prop where
  len : fs.length ≤ 20
  lt : ∀ n ∈ fs, n < 18446744073709551616
theorem Fit.nil : Fit [] := ⟨Nat.zero_le _, fun _ h => (by cases h)⟩
structure Sl.Ok (s : Sl) : Prop where
  ep : s.ep ≤ 1000000000
  fit : Fit s.fs
theorem ok_nil : Sl.Ok ⟨0, []⟩ := ⟨Nat.zero_le _, Fit.nil⟩
set_option maxRecDepth 100000 in
theorem slot_ok (b : List UInt8) : (slot b).Ok := by
  unfold slot
  split
  · rename_i h
    exact ⟨h.2.2.1, by show (lsU _ _).length ≤ 20; rw [lsU_len]; exact cnt_le _, lsU_lt _ _⟩
  · exact ok_nil
theorem encs_app : ∀ (a b : List Nat), encs (a ++ b) = encs a ++ encs b
  | [], b => rfl
  | r :: a, b => by rw [List.cons_append, encs, encs, encs_app a b, List.append_assoc]
set_option maxRecDepth 100000 in
theorem encs_one (n : Nat) : encs [n] = enc n := by simp [encs]
theorem encs_len : ∀ (l : List Nat), (∀ n ∈ l, n < 18446744073709551616) → (encs l).length ≤ 10 * l.length
  | [], _ => Nat.zero_le _
  | n :: l, h => by
    rw [encs, List.length_append, List.length_cons]
    have h1 := len_enc10 (h n List.mem_cons_self)
    have h2 := encs_len l (fun m hm => h m (List.mem_cons_of_mem _ hm))
    omega
set_option maxRecDepth 100000 in
theorem Fit.bytes {fs : List Nat} (h : Fit fs) : (pbytes fs).length ≤ 233 := by
  have h1 := encs_len fs h.lt
  have h2 := len_enc10 (n := fs.length) (by have := h.len; omega)
  have h3 := h.len
  rw [pbytes, List.length_append]; omega
theorem stU_put (l : List Nat) (h : ∀ n ∈ l, n < 18446744073709551616) : ∀ k, k ≤ l.length → stU ⟨0, encs l⟩ k = ⟨0, encs (l.drop k)⟩ ∧ lsU ⟨0, encs l⟩ k = l.take k
  | 0, _ => ⟨rfl, rfl⟩
  | k + 1, hk => by
    obtain ⟨h3, h4⟩ := stU_put l h k (by omega)
    have hu : uintR 18446744073709551615 ⟨0, enc (l[k]'(by omega)) ++ encs (l.drop (k + 1))⟩ = (l[k]'(by omega), ⟨0, encs (l.drop (k + 1))⟩) := uintR_ok rfl (scan_put _ (h _ (List.getElem_mem _)) _) (by have := h _ (List.getElem_mem (l := l) (n := k) (by omega)); omega)
    rw [stU, lsU, h3, h4, List.drop_eq_getElem_cons (by omega), encs, hu]
    refine ⟨rfl, ?_⟩
    rw [List.take_succ_eq_append_getElem (by omega)]
set_option maxRecDepth 100000 in
/-- What was put is read. -/
theorem slot_put {e : Nat} {fs : List Nat} (h0 : 0 < e) (h1 : e ≤ 1000000000) (h : Fit fs) : slot (sector e 3 (pbytes fs)) = ⟨e, fs⟩ := by
  obtain ⟨o1, o2, o3, o4⟩ := sector_opens e 3 (pbytes fs) h0 (by omega) (by decide) h.bytes
  have hu : uintR 20 ⟨0, pbytes fs⟩ = (fs.length, ⟨0, encs fs⟩) := uintR_ok rfl (scan_put _ (by have := h.len; omega) _) (by have := h.len; omega)
  obtain ⟨h3, h4⟩ := stU_put fs h.lt fs.length (Nat.le_refl _)
  have hs : stU (st0 (pbytes fs)) (cnt (pbytes fs)) = ⟨0, []⟩ := by
    rw [st0, cnt, hu]
    simp only
    rw [h3, List.drop_length]; rfl
  rw [slot, if_pos ⟨o1, o3, by rw [o2]; exact h1, by rw [o4, hs]; rfl⟩, o2, o4, st0, cnt, hu]
  simp only
  rw [h4, List.take_length]
theorem slot_zero : slot (List.replicate 256 0) = ⟨0, []⟩ := slot_no (.inl (by rw [noughts_err]; decide))
/-- A master: where it lies, and what its slots have. -/
structure MS where
  at_ : Nat
  a : Sl
  b : Sl
structure MS.Ok (m : MS) : Prop where
  at_ : m.at_ ≤ 4096
  a : m.a.Ok
  b : m.b.Ok
def MS.which (m : MS) : Int := if m.a.ep = 0 ∧ m.b.ep = 0 then -1 else if m.a.ep < m.b.ep then 1 else 0
def MS.lat (m : MS) : Sl := if m.a.ep = 0 ∧ m.b.ep = 0 then ⟨0, []⟩ else if m.a.ep < m.b.ep then m.b else m.a
def MS.other (m : MS) : Nat := if m.which = 0 then 1 else 0
set_option maxRecDepth 100000 in
theorem MS.Ok.lat {m : MS} (h : m.Ok) : m.lat.Ok := by
  unfold MS.lat
  split
  · exact ok_nil
  · split
    · exact h.b
    · exact h.a
def MS.put (m : MS) (i : Nat) (s : Sl) : MS := if i = 0 then { m with a := s } else { m with b := s }
end U
end Go.Proofs.YtmmgfankbabfbaaDoor

/- Where numbers lie; slices.Clone of numbers. -/
namespace Go.Proofs.YtmmgfankbabfbaaDoor
open Go.RowKit

abbrev U8 (n : Nat) : Value := .int .u64 (n : Int)
def N8 (ns : List Nat) : List Value := ns.map U8
set_option maxRecDepth 100000 in
theorem len_N8 (ns : List Nat) : (N8 ns).length = ns.length := by simp [N8]
set_option maxRecDepth 100000 in
theorem N8_get (ns : List Nat) (j : Nat) : (N8 ns)[j]? = ns[j]?.map U8 := by simp [N8]
set_option maxRecDepth 100000 in
theorem N8_app (a b : List Nat) : N8 (a ++ b) = N8 a ++ N8 b := by simp [N8]
set_option maxRecDepth 100000 in
theorem one_N8 (ns : List Nat) : ∀ v ∈ N8 ns, v.oneCell' = true := by
  intro v hv
  obtain ⟨n, _, rfl⟩ := List.mem_map.1 hv
  rfl
/-- A list of numbers: where it lies. -/
structure NPart where
  a : Option Addr
  cap : Nat
  ns : List Nat
abbrev NV (x : NPart) : Value := .slice x.a x.ns.length x.cap
structure NQ (w : World) (Q : Nat → Prop) (x : NPart) : Prop where
  at_ : CQ w Q x.a (N8 x.ns)
  non : x.a = none → x.cap = 0
theorem NQ.touch {w w' : World} {T Q : Nat → Prop} {x : NPart} (h : NQ w Q x) (ht : Touch T w w') (hn : ∀ k, Q k → ¬ T k) : NQ w' Q x := ⟨h.at_.touch ht hn, h.non⟩
theorem NQ.adds {w w' : World} {Q : Nat → Prop} {x : NPart} (h : NQ w Q x) (ht : Adds w w') : NQ w' Q x := ⟨h.at_.adds ht, h.non⟩
theorem NQ.mono {w : World} {Q Q' : Nat → Prop} {x : NPart} (h : NQ w Q x) (hq : ∀ k, k < w.heap.size → Q k → Q' k) : NQ w Q' x := ⟨h.at_.mono hq, h.non⟩
theorem NQ.nil (w : World) (Q : Nat → Prop) : NQ w Q ⟨none, 0, []⟩ := ⟨CQ.nil _ _ _, fun _ => rfl⟩
set_option maxRecDepth 100000 in
theorem NQ.get {w : World} {Q : Nat → Prop} {x : NPart} (h : NQ w Q x) {k : Nat} (hk : k < x.ns.length) : ∃ b o n, x.a = some ⟨b, o, none⟩ ∧ x.ns[k]? = some n ∧ w.cell? ⟨b, o + k, none⟩ = some (.int .u64 (n : Int)) := by
  have hx : x.ns[k]? = some x.ns[k] := List.getElem?_eq_getElem hk
  obtain ⟨b, o, e, _, hc⟩ := h.at_ k (U8 x.ns[k]) (by rw [N8_get, hx]; rfl)
  exact ⟨b, o, _, e, hx, hc⟩
set_option maxRecDepth 100000 in
theorem infoU : ∃ i, Tryd.prog.info? 67 = some i ∧ i.zero = some (.int .u64 0) ∧ i.size = 1 ∧ i.bytes = 8 := by
  have h : (Tryd.prog.info? 67).map (fun i => (i.zero, i.size, i.bytes)) = some (some (.int .u64 0), 1, 8) := by kernel_rfl
  cases hq : Tryd.prog.info? 67 with
  | none => rw [hq] at h; cases h
  | some i =>
    rw [hq] at h
    simp only [Option.map_some, Option.some.injEq, Prod.mk.injEq] at h
    exact ⟨i, rfl, h.1, h.2.1, h.2.2⟩
set_option maxRecDepth 100000 in
theorem append_u1 {w : World} {ops : Array Oper} {rest : List Oper} {o : Oper} {act : Act} {Q : Exit → Act → World → Prop} (hgd : o.guard = none) (s x : Operand)
    (ho : o.op = .call { callee := .builtin .append, args := #[s, x], argTypes := #[38, 38] }) (v : Value) (n : Nat) (xs : List Value) (hs : act.eval s = v) (hown : w.ownsRow 0 67 1 v n xs)
    (g : Nat) (u : Value) (hx : act.eval x = .slice (some ⟨g, 0, none⟩) 1 1) (hc : w.cell? ⟨g, 0, none⟩ = some u) (hu : u.oneCell' = true) (hlen : n ≤ 10000000)
    (h : ∀ v' w', Grew w w' 67 v v' (n + 1) (xs ++ [u]) → wpList Tryd.prog ops Q rest (act.put o.dst v') w') : wpList Tryd.prog ops Q (o :: rest) act w := by
  obtain ⟨i0, hi, hz0, hz1, hz2⟩ := infoU
  refine wpList_append_own_at _ hgd s x 38 ho 0 67 i0 (.int .u64 0) 1 8 Tryd.underlying38 hi hz0 hz1 hz2 rfl (by decide) v n xs hs hown ⟨g, 0, none⟩ 1 1 [u] hx rfl ?_ (fun y hy => by rw [List.mem_singleton.1 hy]; exact hu) (by unfold maxLen; omega) (by omega) (Nat.zero_le _) (fun v' w' h1 h2 _ h4 => h v' w' ⟨h1, h2, h4⟩)
  intro j y hj
  match j, hj with
  | 0, hj =>
    obtain rfl : u = y := by simpa using hj
    rw [Addr.add_mid]; exact hc
set_option maxRecDepth 100000 in
theorem append_um {w : World} {ops : Array Oper} {rest : List Oper} {o : Oper} {act : Act} {Q : Exit → Act → World → Prop} {Q' : Nat → Prop} (hgd : o.guard = none) (s x : Operand)
    (ho : o.op = .call { callee := .builtin .append, args := #[s, x], argTypes := #[38, 38] }) (v : Value) (n : Nat) (xs : List Value) (hs : act.eval s = v) (hown : w.ownsRow 0 67 1 v n xs)
    (a : Option Addr) (m cap : Nat) (ns : List Nat) (hm : ns.length = m) (hx : act.eval x = .slice a m cap) (hcap : a = none → cap = 0) (hA : CQ w Q' a (N8 ns)) (hlen : n + m ≤ 1000000000)
    (h : ∀ v' w', Grew w w' 67 v v' (n + m) (xs ++ N8 ns) → wpList Tryd.prog ops Q rest (act.put o.dst v') w') : wpList Tryd.prog ops Q (o :: rest) act w := by
  obtain ⟨i0, hi, hz0, hz1, hz2⟩ := infoU
  cases a with
  | none =>
    obtain rfl := hcap rfl
    obtain rfl : ns = [] := by
      cases ns with
      | nil => rfl
      | cons u l => obtain ⟨b, o', e, _⟩ := hA 0 (U8 u) rfl; cases e
    obtain rfl : m = 0 := by rw [← hm]; rfl
    exact wpList_append_own_none hgd s x 38 ho 0 67 i0 1 Tryd.underlying38 hi v n xs hs hown hx (h v w ⟨by simpa [N8] using hown, ⟨rfl, rfl, rfl, Nat.le_refl _, fun _ _ _ => rfl⟩, .inl rfl⟩)
  | some ad =>
    refine wpList_append_own_at _ hgd s x 38 ho 0 67 i0 (.int .u64 0) 1 8 Tryd.underlying38 hi hz0 hz1 hz2 rfl (by decide) v n xs hs hown ad m cap (N8 ns) hx (by rw [len_N8]; omega) ?_ (one_N8 ns) (by unfold maxLen; omega) (by omega) (Nat.zero_le _) (fun v' w' g1 g2 _ g4 => h v' w' ⟨g1, g2, g4⟩)
    intro j y hj
    obtain ⟨b, o', e, _, hc⟩ := hA j y hj
    obtain rfl : ad = ⟨b, o', none⟩ := by simpa using e
    rw [Addr.add_mid]; exact hc
/-- Numbers in new memory. -/
def PNum (w : World) (ns : List Nat) (e : Ending) (w' : World) : Prop := ∃ a cap, e = .returned (.slice a ns.length cap) ∧ Hid (NQ w' (fun k => w.heap.size ≤ k) ⟨a, cap, ns⟩ ∧ Adds w w')
set_option maxRecDepth 100000 in
theorem uclone_nil (w : World) : Calls Tryd.prog 35 #[.slice none 0 0] w (PNum w []) := by
  have hq := fun w => Lib.run_eql_slice_nil (P := Tryd.prog) w 38 67 none 0 0 0 0 Tryd.underlying38
  go_enter Tryd.func35, Tryd.ntmps35
  go_wp2_with fail
  go_ret
  exact ⟨none, 0, rfl, NQ.nil _ _, Touch.refl _ _⟩
set_option maxRecDepth 100000 in
set_option maxHeartbeats 1000000 in
theorem uclone_some {Q : Nat → Prop} (b o cap m : Nat) (ns : List Nat) (hm : ns.length = m) (w : World) (hl : m ≤ 1000000) (hA : CQ w Q (some ⟨b, o, none⟩) (N8 ns)) : Calls Tryd.prog 35 #[.slice (some ⟨b, o, none⟩) m cap] w (PNum w ns) := by
  have hq := fun w => Lib.run_eql_slice_nil (P := Tryd.prog) w 38 67 (some ⟨b, o, none⟩) m cap 0 0 Tryd.underlying38
  have HA := hid (hA.adds ((Touch.refl _ w).alloc (.cells #[] 67)))
  have HR := hid (show (w.alloc (.cells #[] 67)).ownsRow 0 67 1 (.slice (some ⟨w.heap.size, 0, none⟩) 0 0) 0 [] from World.ownsRow_lit (base := 0) (e := 67) (size := 1) w #[] 0 (Nat.zero_le _) (by decide) rfl)
  clear hA
  go_enter Tryd.func35, Tryd.ntmps35
  go_wp2_with (at_builtin; refine append_um rfl _ _ rfl (.slice (some ⟨w.heap.size, 0, none⟩) 0 0) 0 [] rfl HR.out (some ⟨b, o, none⟩) m cap ns hm rfl (fun e => (by cases e)) HA.out (by omega) ?_; intro v' w3 G3; have HG := hid G3; clear G3)
  go_ret
  have hG := HG.out
  obtain ⟨a, c, e, _, hn, hcq⟩ := own_cq hG.1
  have hlo : ∀ k, v'.ownBlock = some k → w.heap.size ≤ k := hG.lt (by simp) (fun k hk => by cases hk; exact Nat.le_refl _)
  refine ⟨a, c, by rw [e, hm, Nat.zero_add]; rfl, ⟨?_, hn⟩, ?_⟩
  · have q := hcq.mono (Q' := fun k => w.heap.size ≤ k) (fun k _ c => hlo k c)
    rw [List.nil_append] at q
    exact q
  · exact ((Touch.refl _ w).alloc _).then hG.touch (fun k hk c => by cases c; exact absurd hk (Nat.lt_irrefl _))
set_option maxRecDepth 100000 in
theorem uclone_any {Q : Nat → Prop} (a : Option Addr) (cap m : Nat) (ns : List Nat) (hm : ns.length = m) (w : World) (hl : m ≤ 1000000) (hA : NQ w Q ⟨a, cap, ns⟩) : Calls Tryd.prog 35 #[.slice a m cap] w (PNum w ns) := by
  cases a with
  | none =>
    obtain rfl : cap = 0 := hA.non rfl
    obtain rfl : ns = [] := by
      cases ns with
      | nil => rfl
      | cons u l => obtain ⟨b, o', e, _⟩ := hA.at_ 0 (U8 u) rfl; cases e
    obtain rfl : m = 0 := by rw [← hm]; rfl
    exact uclone_nil w
  | some ad =>
    by_cases h0 : ns = []
    · subst h0
      obtain rfl : m = 0 := by rw [← hm]; rfl
      have hq := fun w => Lib.run_eql_slice_nil (P := Tryd.prog) w 38 67 (some ad) 0 cap 0 0 Tryd.underlying38
      have HR := hid (show (w.alloc (.cells #[] 67)).ownsRow 0 67 1 (.slice (some ⟨w.heap.size, 0, none⟩) 0 0) 0 [] from World.ownsRow_lit (base := 0) (e := 67) (size := 1) w #[] 0 (Nat.zero_le _) (by decide) rfl)
      clear hA hm
      go_enter Tryd.func35, Tryd.ntmps35
      go_wp2_with (at_builtin; refine append_um rfl _ _ rfl (.slice (some ⟨w.heap.size, 0, none⟩) 0 0) 0 [] rfl HR.out (some ad) 0 cap [] rfl rfl (fun e => (by cases e)) (CQ.nil _ (fun _ => True) _) (by omega) ?_; intro v' w3 G3; have HG := hid G3; clear G3)
      go_ret
      have hG := HG.out
      obtain ⟨a, c, e, _, hn, hcq⟩ := own_cq hG.1
      refine ⟨a, c, by rw [e]; rfl, ⟨CQ.nil _ _ _, hn⟩, ?_⟩
      exact ((Touch.refl _ w).alloc _).then hG.touch (fun k hk c => by cases c; exact absurd hk (Nat.lt_irrefl _))
    · obtain ⟨u, l, rfl⟩ := List.exists_cons_of_ne_nil h0
      obtain ⟨b, o', e, _⟩ := hA.at_ 0 (U8 u) rfl
      obtain rfl : ad = ⟨b, o', none⟩ := by simpa using e
      exact uclone_some b o' cap m _ hm w hl hA.at_
end Go.Proofs.YtmmgfankbabfbaaDoor

/- A log's small calls. -/
namespace Go.Proofs.YtmmgfankbabfbaaDoor
open Go.RowKit

end Go.Proofs.YtmmgfankbabfbaaDoor

/- A group's records. -/
namespace Go.Proofs.YtmmgfankbabfbaaDoor
open Go.RowKit

set_option maxRecDepth 100000 in
/-- What lies above a reader may turn. -/
theorem RD.above {w w' : World} {T : Nat → Prop} {p : Nat} {s : M.St} (h : RD w (Ptr p) s) (hT : Touch T w w') (hp : ∀ k, T k → p < k) : RD w' (Ptr p) s := by
  rcases h with ⟨e, _⟩ | ⟨q, e, hb, hs⟩ | ⟨q, e, hR⟩
  · cases e
  · obtain rfl : p = q := by simpa using e
    exact .inr (.inl ⟨p, rfl, hT.at' hb (fun c => by have := hp p c; omega), hs⟩)
  · obtain rfl : p = q := by simpa using e
    obtain ⟨a, cap, hb, hL⟩ := hR.box
    refine .inr (.inr ⟨p, rfl, ⟨⟨a, cap, hT.at' hb (fun c => by have := hp p c; omega), ⟨hL.at_.block (fun b o e hb => hT.block b hb (fun c => by have h1 : b < p := (hL.low _ e).2; have := hp b c; omega)), hL.room, hL.non, hL.low⟩⟩, hR.good, hR.len, hR.err⟩⟩)
/-- A list of slices in new memory. -/
structure Fresh (B : Nat) (w : World) (v : Value) (hs : List Part) : Prop where
  rows : w.ownsRow 0 91 1 v hs.length (hs.map PV)
  own : ∀ k, v.ownBlock = some k → B ≤ k
  data : ∀ x ∈ hs, PQ w (fun k => B ≤ k ∧ v.ownBlock ≠ some k) x
theorem Fresh.touch {B : Nat} {w w' : World} {T : Nat → Prop} {v : Value} {hs : List Part} (h : Fresh B w v hs) (hT : Touch T w w') (hn : ∀ k, B ≤ k → ¬ T k) : Fresh B w' v hs :=
  ⟨row_touch h.rows hT (fun k hk => hn k (h.own k hk)), h.own, fun x hx => (h.data x hx).touch hT (fun k q => hn k q.1)⟩
theorem Fresh.low {B C : Nat} {w : World} {v : Value} {hs : List Part} (h : Fresh B w v hs) (hB : C ≤ B) : Fresh C w v hs :=
  ⟨h.rows, fun k hk => Nat.le_trans hB (h.own k hk), fun x hx => (h.data x hx).mono (fun _ _ q => ⟨Nat.le_trans hB q.1, q.2⟩)⟩
theorem Fresh.nil (B : Nat) (w : World) : Fresh B w (.slice none 0 0) [] := ⟨World.ownsRow_nil _ _ _ _, fun _ hk => (by cases hk), fun _ hx => (by cases hx)⟩
set_option maxRecDepth 100000 in
/-- One more. -/
theorem Fresh.more {B : Nat} {w w1 w2 : World} {v v' : Value} {hs : List Part} {x : Part} (h : Fresh B w v hs) (hA : Adds w w1) (hG : Grew w1 w2 91 v v' (hs.length + 1) (hs.map PV ++ [PV x])) (hB : B ≤ w.heap.size) (hx : PQ w1 (fun k => B ≤ k ∧ v.ownBlock ≠ some k) x) : Fresh B w2 v' (hs ++ [x]) := by
  have hw := hA.size
  have hlt : ∀ k, k < w1.heap.size → v.ownBlock ≠ some k → v'.ownBlock ≠ some k := fun k hk hn c => by
    rcases hG.2.2 with e | e
    · exact hn (by rw [← e]; exact c)
    · rw [e] at c; cases c; omega
  refine ⟨by rw [List.length_append, List.map_append]; exact hG.1, hG.lt (by omega) h.own, fun y hy => ?_⟩
  rcases List.mem_append.1 hy with hy | hy
  · have q := ((h.data y hy).adds hA).mono (Q' := fun k => B ≤ k ∧ v.ownBlock ≠ some k ∧ v'.ownBlock ≠ some k) (fun k hk q => ⟨q.1, q.2, hlt k hk q.2⟩)
    exact (q.touch hG.touch (fun k q => q.2.1)).mono (fun k _ q => ⟨q.1, q.2.2⟩)
  · obtain rfl := List.mem_singleton.1 hy
    have q := hx.mono (Q' := fun k => B ≤ k ∧ v.ownBlock ≠ some k ∧ v'.ownBlock ≠ some k) (fun k hk q => ⟨q.1, q.2, hlt k hk q.2⟩)
    exact (q.touch hG.touch (fun k q => q.2.1)).mono (fun k _ q => ⟨q.1, q.2.2⟩)
/-- What records tells. -/
def PRecs (w : World) (ls : List (List UInt8)) (e : Ending) (w' : World) : Prop := ∃ v hs, e = .returned v ∧ Hid (Fresh w.heap.size w' v hs ∧ hs.map (·.bs) = ls ∧ Adds w w')

set_option maxRecDepth 100000 in
theorem str_part (bs : List UInt8) (w : World) : ∃ cap w1, (convert 9 91 (.string ⟨bs.toArray⟩)).run Tryd.prog w = .ok (.slice (some ⟨w.heap.size, 0, none⟩) bs.length cap) w1 ∧ PQ w1 (fun k => k = w.heap.size) ⟨some ⟨w.heap.size, 0, none⟩, bs, cap⟩ ∧ Adds w w1 := by
  obtain ⟨cap, w1, h1, h2, h3⟩ := str_bytes bs w
  exact ⟨cap, w1, h1, ⟨h2.cq (fun b o e => by cases e; rfl), fun e => by cases e⟩, h3⟩

end Go.Proofs.YtmmgfankbabfbaaDoor

/- A group's pieces. -/
namespace Go.Proofs.YtmmgfankbabfbaaDoor
open Go.RowKit

def W.pieces (g : List UInt8) : List (List UInt8) := (List.range (W.secs g.length)).map (W.piece (W.full g))
set_option maxRecDepth 100000 in
theorem run_mid (b len cap l h : Nat) (h1 : l < h) (h2 : h ≤ cap) (w : World) : (Instr.sliceAt 91 (.slice (some ⟨b, 0, none⟩) len cap) (some (.int .i64 (l : Int))) (some (.int .i64 (h : Int))) (some (.int .i64 (h : Int)))).run Tryd.prog w = .ok (.slice (some ⟨b, l, none⟩) (h - l) (h - l)) w := by
  have hsz : (sizeOf 5).run Tryd.prog w = .ok 1 w := by kernel_rfl
  rw [run_sliceAt_slice w 91 _ _ _ _ Tryd.underlying91, run_slice_lhm w 91 _ len cap Tryd.underlying91 .i64 .i64 .i64 l h h (by omega) (by omega) (by omega) (by omega)]
  have he : Tryd.prog.elem 91 = 5 := by kernel_rfl
  rw [he, hsz]
  simp only [Result.andThen, sliced, Int.toNat_natCast, Nat.mul_one]
  rw [if_neg (by omega)]
  simp [Addr.add_mid]

set_option maxRecDepth 100000 in
theorem cut_mem {w w2 wr w5 : World} {v v5 : Value} {hs : List Part} {g : List UInt8} {ab ac n k sc X PL : Nat} {i : Value} (hF : Fresh w.heap.size wr v hs) (hbs : hs.map (·.bs) = (List.range k).map (W.piece (W.full g))) (hv : ∀ j, v.ownBlock = some j → w2.heap.size ≤ j) (hA : Adds w2 wr)
    (ho : w2.ownsRow X 5 1 (.slice (some ⟨ab, 0, none⟩) (4 + n) ac) (4 + n) (S (W.full g))) (hab : X ≤ ab) (hX : w.heap.size ≤ X) (hlen : hs.length = k) (hlt : k < sc)
    (hG : Grew (wr.alloc (.cells #[.slice (some ⟨ab, 233 * k, none⟩) PL PL] 91)) w5 91 v v5 (k + 1) (hs.map PV ++ [.slice (some ⟨ab, 233 * k, none⟩) PL PL])) (hP : PL = (W.piece (W.full g) k).length) (hi : i = .int .i64 ((233 * (k + 1) : Nat) : Int)) :
    ∃ (k' : Nat) (hs' : List Part), k' ≤ sc ∧ i = .int .i64 ((233 * k' : Nat) : Int) ∧ hs'.length = k' ∧ Hid (Fresh w.heap.size w5 v5 hs' ∧ hs'.map (·.bs) = (List.range k').map (W.piece (W.full g)) ∧ (∀ j, v5.ownBlock = some j → w2.heap.size ≤ j) ∧ Adds w2 w5) := by
  subst hP
  have hAt : At wr (some ⟨ab, 233 * k, none⟩) (W.piece (W.full g) k) := by
    have := (((At.own ho).suf (233 * k)).pre 233).adds hA
    rwa [Nat.zero_add] at this
  have hlow := (row_low (k := ab) ho rfl).2
  have hsz := hA.size
  refine ⟨k + 1, hs ++ [⟨some ⟨ab, 233 * k, none⟩, W.piece (W.full g) k, (W.piece (W.full g) k).length⟩], hlt, hi, by rw [List.length_append, hlen]; rfl, ?_, ?_, ?_, ?_⟩
  · refine hF.more ((Touch.refl _ wr).alloc _) (by rw [hlen]; exact hG) (by omega) ⟨(hAt.adds ((Touch.refl _ wr).alloc _)).cq (fun b o e => by cases e; exact ⟨by omega, fun c => by have := hv _ c; omega⟩), fun e => by cases e⟩
  · rw [List.map_append, hbs, List.range_succ, List.map_append]; rfl
  · exact hG.lt (by simp; omega) hv
  · exact (hA.alloc _).then hG.touch (fun j hj c => by have := hv j c; omega)
end Go.Proofs.YtmmgfankbabfbaaDoor
