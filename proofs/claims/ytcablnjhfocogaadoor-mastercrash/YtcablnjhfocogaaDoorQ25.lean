/- Where bytes lie, lists of them, and lists of these. -/
import Derived.Test.YtcablnjhfocogaaDoorQ11
import Derived.Test.YtcablnjhfocogaaDoorQ23
import Derived.Test.YtcablnjhfocogaaDoorQ24
import Derived.Maps.AppendAt
import Derived.Test.YtcablnjhfocogaaDoorQ18
namespace Go.Proofs.YtcablnjhfocogaaDoor
open Go.RowKit

/-- Cells from an address on, in blocks of Q. -/
def CQ (w : World) (Q : Nat → Prop) (a : Option Addr) (xs : List Value) : Prop := ∀ (j : Nat) (u : Value), xs[j]? = some u → ∃ b o, a = some ⟨b, o, none⟩ ∧ Q b ∧ w.cell? ⟨b, o + j, none⟩ = some u
set_option maxRecDepth 100000 in
theorem CQ.nil (w : World) (Q : Nat → Prop) (a : Option Addr) : CQ w Q a [] := by intro j u h; simp at h
set_option maxRecDepth 100000 in
theorem CQ.touch {w w' : World} {T Q : Nat → Prop} {a : Option Addr} {xs : List Value} (h : CQ w Q a xs) (ht : Touch T w w') (hn : ∀ k, Q k → ¬ T k) : CQ w' Q a xs := by
  intro j u hj
  obtain ⟨b, o, e, hq, hc⟩ := h j u hj
  exact ⟨b, o, e, hq, by rw [World.cell?_of_block (w := w) (ht.block b (World.block_lt_of_cell? w _ hc) (hn b hq))]; exact hc⟩
theorem CQ.adds {w w' : World} {Q : Nat → Prop} {a : Option Addr} {xs : List Value} (h : CQ w Q a xs) (ht : Adds w w') : CQ w' Q a xs := h.touch ht (fun _ _ => id)
set_option maxRecDepth 100000 in
theorem CQ.mono {w : World} {Q Q' : Nat → Prop} {a : Option Addr} {xs : List Value} (h : CQ w Q a xs) (hq : ∀ k, k < w.heap.size → Q k → Q' k) : CQ w Q' a xs := by
  intro j u hj
  obtain ⟨b, o, e, h1, hc⟩ := h j u hj
  exact ⟨b, o, e, hq b (World.block_lt_of_cell? w _ hc) h1, hc⟩
set_option maxRecDepth 100000 in
theorem CQ.at {w : World} {Q : Nat → Prop} {a : Option Addr} {bs : List UInt8} (h : CQ w Q a (S bs)) : At w a bs := by
  intro j c hj
  obtain ⟨b, o, e, _, hc⟩ := h j (B8 c) (by rw [S_get, hj]; rfl)
  exact ⟨b, o, e, hc⟩
set_option maxRecDepth 100000 in
theorem At.cq {w : World} {Q : Nat → Prop} {a : Option Addr} {bs : List UInt8} (h : At w a bs) (hq : ∀ b o, a = some ⟨b, o, none⟩ → Q b) : CQ w Q a (S bs) := by
  intro j u hj
  rw [S_get] at hj
  obtain ⟨c, hc, rfl⟩ := Option.map_eq_some_iff.1 hj
  obtain ⟨b, o, e, h1⟩ := h j c hc
  exact ⟨b, o, e, hq b o e, h1⟩
set_option maxRecDepth 100000 in
/-- A row's cells. -/
theorem own_cq {w : World} {base : Nat} {e : TypeId} {v : Value} {n : Nat} {xs : List Value} (h : w.ownsRow base e 1 v n xs) : ∃ a cap, v = .slice a n cap ∧ n ≤ cap ∧ (a = none → cap = 0) ∧ CQ w (fun k => v.ownBlock = some k) a xs := by
  rcases h.2 with ⟨rfl, rfl⟩ | ⟨g, cap, cur, rfl, hb, hg, hc, h2, h3, h4⟩
  · obtain rfl : xs = [] := List.eq_nil_of_length_eq_zero (by have := h.1; omega)
    exact ⟨none, 0, rfl, Nat.le_refl _, fun _ => rfl, CQ.nil _ _ _⟩
  · refine ⟨_, cap, rfl, hc, fun e => (by cases e), fun j u hj => ⟨g, 0, rfl, rfl, ?_⟩⟩
    rw [cellOf hg, Nat.zero_add]
    rw [← h4, List.getElem?_take] at hj
    split at hj
    · simpa using hj
    · cases hj

/-- A slice of bytes as a value. -/
abbrev PV (x : Part) : Value := .slice x.a x.bs.length x.cap
structure PQ (w : World) (Q : Nat → Prop) (x : Part) : Prop where
  at_ : CQ w Q x.a (S x.bs)
  non : x.a = none → x.cap = 0
theorem PQ.touch {w w' : World} {T Q : Nat → Prop} {x : Part} (h : PQ w Q x) (ht : Touch T w w') (hn : ∀ k, Q k → ¬ T k) : PQ w' Q x := ⟨h.at_.touch ht hn, h.non⟩
theorem PQ.adds {w w' : World} {Q : Nat → Prop} {x : Part} (h : PQ w Q x) (ht : Adds w w') : PQ w' Q x := ⟨h.at_.adds ht, h.non⟩
theorem PQ.mono {w : World} {Q Q' : Nat → Prop} {x : Part} (h : PQ w Q x) (hq : ∀ k, k < w.heap.size → Q k → Q' k) : PQ w Q' x := ⟨h.at_.mono hq, h.non⟩
/-- A list of slices of bytes. -/
structure Pl where
  a : Option Addr
  cap : Nat
  l : List Part
abbrev GV (g : Pl) : Value := .slice g.a g.l.length g.cap
def Pl.bs (g : Pl) : List (List UInt8) := g.l.map (·.bs)
structure GQ (w : World) (Q : Nat → Prop) (g : Pl) : Prop where
  at_ : CQ w Q g.a (g.l.map PV)
  non : g.a = none → g.cap = 0
  all : ∀ x ∈ g.l, PQ w Q x
theorem GQ.touch {w w' : World} {T Q : Nat → Prop} {g : Pl} (h : GQ w Q g) (ht : Touch T w w') (hn : ∀ k, Q k → ¬ T k) : GQ w' Q g := ⟨h.at_.touch ht hn, h.non, fun x hx => (h.all x hx).touch ht hn⟩
theorem GQ.adds {w w' : World} {Q : Nat → Prop} {g : Pl} (h : GQ w Q g) (ht : Adds w w') : GQ w' Q g := h.touch ht (fun _ _ => id)
theorem GQ.mono {w : World} {Q Q' : Nat → Prop} {g : Pl} (h : GQ w Q g) (hq : ∀ k, k < w.heap.size → Q k → Q' k) : GQ w Q' g := ⟨h.at_.mono hq, h.non, fun x hx => (h.all x hx).mono hq⟩

set_option maxRecDepth 100000 in
theorem infoB : ∃ i, Tryd.prog.info? 59 = some i ∧ i.zero = some (.slice none 0 0) ∧ i.size = 1 ∧ i.bytes = 24 := by
  have h : (Tryd.prog.info? 59).map (fun i => (i.zero, i.size, i.bytes)) = some (some (.slice none 0 0), 1, 24) := by kernel_rfl
  cases hq : Tryd.prog.info? 59 with
  | none => rw [hq] at h; cases h
  | some i =>
    rw [hq] at h
    simp only [Option.map_some, Option.some.injEq, Prod.mk.injEq] at h
    exact ⟨i, rfl, h.1, h.2.1, h.2.2⟩
set_option maxRecDepth 100000 in
theorem infoBB : ∃ i, Tryd.prog.info? 87 = some i ∧ i.zero = some (.slice none 0 0) ∧ i.size = 1 ∧ i.bytes = 24 := by
  have h : (Tryd.prog.info? 87).map (fun i => (i.zero, i.size, i.bytes)) = some (some (.slice none 0 0), 1, 24) := by kernel_rfl
  cases hq : Tryd.prog.info? 87 with
  | none => rw [hq] at h; cases h
  | some i =>
    rw [hq] at h
    simp only [Option.map_some, Option.some.injEq, Prod.mk.injEq] at h
    exact ⟨i, rfl, h.1, h.2.1, h.2.2⟩
/-- A row that has grown: it is where it was, or new. -/
def Grew (w w' : World) (e : TypeId) (v v' : Value) (n : Nat) (xs : List Value) : Prop := w'.ownsRow 0 e 1 v' n xs ∧ w.grownBy w' v.ownBlock ∧ (v'.ownBlock = v.ownBlock ∨ v'.ownBlock = some w.heap.size)
set_option maxRecDepth 100000 in
theorem append_b1 {w : World} {ops : Array Oper} {rest : List Oper} {o : Oper} {act : Act} {Q : Exit → Act → World → Prop} (hgd : o.guard = none) (s x : Operand)
    (ho : o.op = .call { callee := .builtin .append, args := #[s, x], argTypes := #[87, 87] }) (v : Value) (n : Nat) (xs : List Value) (hs : act.eval s = v) (hown : w.ownsRow 0 59 1 v n xs)
    (g : Nat) (u : Value) (hx : act.eval x = .slice (some ⟨g, 0, none⟩) 1 1) (hc : w.cell? ⟨g, 0, none⟩ = some u) (hu : u.oneCell' = true) (hlen : n ≤ 10000000)
    (h : ∀ v' w', Grew w w' 59 v v' (n + 1) (xs ++ [u]) → wpList Tryd.prog ops Q rest (act.put o.dst v') w') : wpList Tryd.prog ops Q (o :: rest) act w := by
  obtain ⟨i0, hi, hz0, hz1, hz2⟩ := infoB
  refine wpList_append_own_at _ hgd s x 87 ho 0 59 i0 (.slice none 0 0) 1 24 Tryd.underlying87 hi hz0 hz1 hz2 rfl (by decide) v n xs hs hown ⟨g, 0, none⟩ 1 1 [u] hx rfl ?_ (fun y hy => by rw [List.mem_singleton.1 hy]; exact hu) (by unfold maxLen; omega) (by omega) (Nat.zero_le _) (fun v' w' h1 h2 _ h4 => h v' w' ⟨h1, h2, h4⟩)
  intro j y hj
  match j, hj with
  | 0, hj =>
    obtain rfl : u = y := by simpa using hj
    rw [Addr.add_mid]; exact hc
set_option maxRecDepth 100000 in
theorem append_t {w : World} {ops : Array Oper} {rest : List Oper} {o : Oper} {act : Act} {Q : Exit → Act → World → Prop} (hgd : o.guard = none) (s x : Operand)
    (ho : o.op = .call { callee := .builtin .append, args := #[s, x], argTypes := #[59, 59] }) (v : Value) (n : Nat) (xs : List Value) (hs : act.eval s = v) (hown : w.ownsRow 0 5 1 v n xs)
    (ad : Addr) (bs : List UInt8) (m cap : Nat) (hm : bs.length = m) (hx : act.eval x = .slice (some ad) m cap) (hA : At w (some ad) bs) (hlen : n + m ≤ 1000000000)
    (h : ∀ v' w', Grew w w' 5 v v' (n + m) (xs ++ S bs) → wpList Tryd.prog ops Q rest (act.put o.dst v') w') : wpList Tryd.prog ops Q (o :: rest) act w := by
  obtain ⟨i0, hi, hz0, hz1, hz2⟩ := info5all
  refine wpList_append_own_at _ hgd s x 59 ho 0 5 i0 (.int .u8 0) 1 1 Tryd.underlying59 hi hz0 hz1 hz2 rfl (by decide) v n xs hs hown ad m cap (S bs) hx (by rw [length_S]; omega) ?_ (one_S bs) (by unfold maxLen; omega) (by omega) (Nat.zero_le _) (fun v' w' h1 h2 _ h4 => h v' w' ⟨h1, h2, h4⟩)
  intro j y hj
  rw [S_get] at hj
  obtain ⟨c, hc, rfl⟩ := Option.map_eq_some_iff.1 hj
  obtain ⟨b, o', e, h1⟩ := hA j c hc
  obtain rfl : ad = ⟨b, o', none⟩ := by simpa using e
  rw [Addr.add_mid]; exact h1
/-- What a row's growing touches. -/
theorem Grew.touch {w w' : World} {e : TypeId} {v v' : Value} {n : Nat} {xs : List Value} (h : Grew w w' e v v' n xs) : Touch (fun k => v.ownBlock = some k) w w' := ⟨h.2.1.os, h.2.1.tape, h.2.1.output, h.2.1.size, fun k hk hn => h.2.1.block k hk (fun c => hn c.symm)⟩
set_option maxRecDepth 100000 in
theorem Grew.lt {w w' : World} {e : TypeId} {v v' : Value} {n : Nat} {xs : List Value} (h : Grew w w' e v v' n xs) {B : Nat} (hB : B ≤ w.heap.size) (hv : ∀ k, v.ownBlock = some k → B ≤ k) : ∀ k, v'.ownBlock = some k → B ≤ k := by
  intro k hk
  rcases h.2.2 with c | c
  · exact hv k (by rw [← c]; exact hk)
  · rw [c] at hk; cases hk; exact hB
set_option maxRecDepth 100000 in
theorem row_type {w : World} {B : Nat} {e : TypeId} {v : Value} {n : Nat} {xs : List Value} (h : w.ownsRow B e 1 v n xs) {k : Nat} (hk : v.ownBlock = some k) : ∃ cur, w.heap[k]? = some (.cells cur e (0, 0)) := by
  rcases h.2 with ⟨rfl, _⟩ | ⟨g, cap, cur, rfl, hb', hgg, rest⟩
  · cases hk
  · obtain rfl : g = k := by simpa [Value.ownBlock] using hk
    exact ⟨cur, hgg⟩
set_option maxRecDepth 100000 in
theorem row_touch {w w' : World} {T : Nat → Prop} {B : Nat} {e : TypeId} {v : Value} {n : Nat} {xs : List Value} (h : w.ownsRow B e 1 v n xs) (ht : Touch T w w') (hn : ∀ k, v.ownBlock = some k → ¬ T k) : w'.ownsRow B e 1 v n xs := by
  refine ⟨h.1, ?_⟩
  rcases h.2 with hh | ⟨g, cap, cur, rfl, hb', hgg, rest⟩
  · exact .inl hh
  · refine .inr ⟨g, cap, cur, rfl, hb', ?_, rest⟩
    rw [ht.block g (Array.getElem?_eq_some_iff.1 hgg).1 (hn g rfl)]; exact hgg
set_option maxRecDepth 100000 in
theorem row_base {w : World} {B C : Nat} {e : TypeId} {v : Value} {n : Nat} {xs : List Value} (h : w.ownsRow B e 1 v n xs) (hb : ∀ k, v.ownBlock = some k → C ≤ k) : w.ownsRow C e 1 v n xs := by
  refine ⟨h.1, ?_⟩
  rcases h.2 with hh | ⟨g, cap, cur, rfl, hb', rest⟩
  · exact .inl hh
  · exact .inr ⟨g, cap, cur, rfl, hb g rfl, rest⟩
set_option maxRecDepth 100000 in
theorem row_low {w : World} {B : Nat} {e : TypeId} {v : Value} {n : Nat} {xs : List Value} (h : w.ownsRow B e 1 v n xs) {k : Nat} (hk : v.ownBlock = some k) : B ≤ k ∧ k < w.heap.size := by
  rcases h.2 with ⟨rfl, _⟩ | ⟨g, cap, cur, rfl, hb', hgg, rest⟩
  · cases hk
  · obtain rfl : g = k := by simpa [Value.ownBlock] using hk
    exact ⟨hb', (Array.getElem?_eq_some_iff.1 hgg).1⟩
set_option maxRecDepth 100000 in
theorem Touch.at' {T : Nat → Prop} {w w' : World} (h : Touch T w w') {k : Nat} {o : Obj} (hk : w.heap[k]? = some o) (hn : ¬ T k) : w'.heap[k]? = some o := by
  rw [h.block k (Array.getElem?_eq_some_iff.1 hk).1 hn]; exact hk
set_option maxRecDepth 100000 in
/-- A whole struct is stored. -/
theorem wp_store_row {P : Program} {o : Oper} {a : Act} {w : World} {K : Act → World → Prop} {Q : Exit → Act → World → Prop} (x y : Operand) (t : TypeId) (ho : o.op = .store t x y) (g : Nat) (cells old : Array Value) (u : TypeId)
    (hx : a.eval x = .pointer (some ⟨g, 0, none⟩)) (hy : a.eval y = .agg cells) (hg : w.heap[g]? = some (.cells old u (0, 0))) (hi : (P.info? t).map (·.size) = some cells.size) (hs : old.size = cells.size) (h1 : cells.all (·.oneCell') = true)
    (h : K (a.put o.dst undef) (w.setRow g cells)) : o.wp P a w K Q := by
  have hst := run_storeVar_row (P := P) w g u t old cells hg hi hs h1
  unfold Oper.wp execOp
  rw [ho]
  simp only [hx, hy, Instr.storeAt, Instr.sureAddr, Sem.run_bind, Sem.run_pure, Result.andThen_ok, hst]
  exact h
end Go.Proofs.YtcablnjhfocogaaDoor
