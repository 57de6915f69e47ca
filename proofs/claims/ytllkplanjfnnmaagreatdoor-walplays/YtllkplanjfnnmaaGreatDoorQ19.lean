/- Texts put together: WMem, WLeaf, WRecs, WCut, WLog. -/
import Derived.Test.YtllkplanjfnnmaaGreatDoorQ07
import Derived.Test.YtllkplanjfnnmaaGreatDoorQ17
import Derived.Test.YtllkplanjfnnmaaGreatDoorQ18
import Derived.Maps.AppendAt
import Derived.Test.YtllkplanjfnnmaaGreatDoorQ12
/- Where bytes lie, lists of them, and lists of these. -/
namespace Go.Proofs.YtllkplanjfnnmaaGreatDoor
open Go.RowKit

/-- Cells from an address on, in blocks of Q. -/
def CQ (w : World) (Q : Nat → Prop) (a : Option Addr) (xs : List Value) : Prop := ∀ (j : Nat) (u : Value), xs[j]? = some u → ∃ b o, a = some ⟨b, o, none⟩ ∧ Q b ∧ w.cell? ⟨b, o + j, none⟩ = some u
set_option maxRecDepth 100000 in
theorem CQ.nil (w : World) (Q : Nat → Prop) (a : Option Addr) : CQ w Q a [] := by intro j u h; simp at h
set_option maxRecDepth 100000 in
theorem CQ.touch {w w' : World} {T Q : Nat → Prop} {a : Option Addr} {xs : List Value} (h : CQ w Q a xs) (ht : Touch T w w') (hn : ∀ k, Q k → ¬ T k) : CQ w' Q a xs := by
  intro j u hj
  obtain ⟨b, o, e, hq, hc⟩ := h j u hj
  exact ⟨b, o, e, hq, by rw [World.cell?_of_block (w := w) (ht.block b (World.block_lt_of_cell? w _ hc) (hn b hq))]; exact hc⟩
theorem CQ.adds {w w' : World} {Q : Nat → Prop} {a : Option Addr} {xs : List Value} (h : CQ w Q a xs) (ht : Adds w w') : CQ w' Q a xs := h.touch ht (fun _ _ => id)
set_option maxRecDepth 100000 in
theorem CQ.mono {w : World} {Q Q' : Nat → Prop} {a : Option Addr} {xs : List Value} (h : CQ w Q a xs) (hq : ∀ k, k < w.heap.size → Q k → Q' k) : CQ w Q' a xs := by
  intro j u hj
  obtain ⟨b, o, e, h1, hc⟩ := h j u hj
  exact ⟨b, o, e, hq b (World.block_lt_of_cell? w _ hc) h1, hc⟩
set_option maxRecDepth 100000 in
theorem CQ.at {w : World} {Q : Nat → Prop} {a : Option Addr} {bs : List UInt8} (h : CQ w Q a (S bs)) : At w a bs := by
  intro j c hj
  obtain ⟨b, o, e, _, hc⟩ := h j (B8 c) (by rw [S_get, hj]; rfl)
  exact ⟨b, o, e, hc⟩
set_option maxRecDepth 100000 in
theorem At.cq {w : World} {Q : Nat → Prop} {a : Option Addr} {bs : List UInt8} (h : At w a bs) (hq : ∀ b o, a = some ⟨b, o, none⟩ → Q b) : CQ w Q a (S bs) := by
  intro j u hj
  rw [S_get] at hj
  obtain ⟨c, hc, rfl⟩ := Option.map_eq_some_iff.1 hj
  obtain ⟨b, o, e, h1⟩ := h j c hc
  exact ⟨b, o, e, hq b o e, h1⟩
set_option maxRecDepth 100000 in
/-- A row's cells. -/
theorem own_cq {w : World} {base : Nat} {e : TypeId} {v : Value} {n : Nat} {xs : List Value} (h : w.ownsRow base e 1 v n xs) : ∃ a cap, v = .slice a n cap ∧ n ≤ cap ∧ (a = none → cap = 0) ∧ CQ w (fun k => v.ownBlock = some k) a xs := by
  rcases h.2 with ⟨rfl, rfl⟩ | ⟨g, cap, cur, rfl, hb, hg, hc, h2, h3, h4⟩
  · obtain rfl : xs = [] := List.eq_nil_of_length_eq_zero (by have := h.1; omega)
    exact ⟨none, 0, rfl, Nat.le_refl _, fun _ => rfl, CQ.nil _ _ _⟩
  · refine ⟨_, cap, rfl, hc, fun e => (by cases e), fun j u hj => ⟨g, 0, rfl, rfl, ?_⟩⟩
    rw [cellOf hg, Nat.zero_add]
    rw [← h4, List.getElem?_take] at hj
    split at hj
    · simpa using hj
    · cases hj

/-- A slice of bytes as a value. -/
abbrev PV (x : Part) : Value := .slice x.a x.bs.length x.cap
structure PQ (w : World) (Q : Nat → Prop) (x : Part) : Prop where
  at_ : CQ w Q x.a (S x.bs)
  non : x.a = none → x.cap = 0
theorem PQ.touch {w w' : World} {T Q : Nat → Prop} {x : Part} (h : PQ w Q x) (ht : Touch T w w') (hn : ∀ k, Q k → ¬ T k) : PQ w' Q x := ⟨h.at_.touch ht hn, h.non⟩
theorem PQ.adds {w w' : World} {Q : Nat → Prop} {x : Part} (h : PQ w Q x) (ht : Adds w w') : PQ w' Q x := ⟨h.at_.adds ht, h.non⟩
theorem PQ.mono {w : World} {Q Q' : Nat → Prop} {x : Part} (h : PQ w Q x) (hq : ∀ k, k < w.heap.size → Q k → Q' k) : PQ w Q' x := ⟨h.at_.mono hq, h.non⟩
/-- A list of slices of bytes. -/
structure Pl where
  a : Option Addr
  cap : Nat
  l : List Part
abbrev GV (g : Pl) : Value := .slice g.a g.l.length g.cap
def Pl.bs (g : Pl) : List (List UInt8) := g.l.map (·.bs)
structure GQ (w : World) (Q : Nat → Prop) (g : Pl) : Prop where
  at_ : CQ w Q g.a (g.l.map PV)
  non : g.a = none → g.cap = 0
  all : ∀ x ∈ g.l, PQ w Q x
theorem GQ.touch {w w' : World} {T Q : Nat → Prop} {g : Pl} (h : GQ w Q g) (ht : Touch T w w') (hn : ∀ k, Q k → ¬ T k) : GQ w' Q g := ⟨h.at_.touch ht hn, h.non, fun x hx => (h.all x hx).touch ht hn⟩
theorem GQ.adds {w w' : World} {Q : Nat → Prop} {g : Pl} (h : GQ w Q g) (ht : Adds w w') : GQ w' Q g := h.touch ht (fun _ _ => id)
theorem GQ.mono {w : World} {Q Q' : Nat → Prop} {g : Pl} (h : GQ w Q g) (hq : ∀ k, k < w.heap.size → Q k → Q' k) : GQ w Q' g := ⟨h.at_.mono hq, h.non, fun x hx => (h.all x hx).mono hq⟩

set_option maxRecDepth 100000 in
theorem infoB : ∃ i, Tryz.prog.info? 56 = some i ∧ i.zero = some (.slice none 0 0) ∧ i.size = 1 ∧ i.bytes = 24 := by
  have h : (Tryz.prog.info? 56).map (fun i => (i.zero, i.size, i.bytes)) = some (some (.slice none 0 0), 1, 24) := by kernel_rfl
  cases hq : Tryz.prog.info? 56 with
  | none => rw [hq] at h; cases h
  | some i =>
    rw [hq] at h
    simp only [Option.map_some, Option.some.injEq, Prod.mk.injEq] at h
    exact ⟨i, rfl, h.1, h.2.1, h.2.2⟩
set_option maxRecDepth 100000 in
theorem infoBB : ∃ i, Tryz.prog.info? 61 = some i ∧ i.zero = some (.slice none 0 0) ∧ i.size = 1 ∧ i.bytes = 24 := by
  have h : (Tryz.prog.info? 61).map (fun i => (i.zero, i.size, i.bytes)) = some (some (.slice none 0 0), 1, 24) := by kernel_rfl
  cases hq : Tryz.prog.info? 61 with
  | none => rw [hq] at h; cases h
  | some i =>
    rw [hq] at h
    simp only [Option.map_some, Option.some.injEq, Prod.mk.injEq] at h
    exact ⟨i, rfl, h.1, h.2.1, h.2.2⟩
/-- A row that has grown: it is where it was, or new. -/
def Grew (w w' : World) (e : TypeId) (v v' : Value) (n : Nat) (xs : List Value) : Prop := w'.ownsRow 0 e 1 v' n xs ∧ w.grownBy w' v.ownBlock ∧ (v'.ownBlock = v.ownBlock ∨ v'.ownBlock = some w.heap.size)
set_option maxRecDepth 100000 in
theorem append_b1 {w : World} {ops : Array Oper} {rest : List Oper} {o : Oper} {act : Act} {Q : Exit → Act → World → Prop} (hgd : o.guard = none) (s x : Operand)
    (ho : o.op = .call { callee := .builtin .append, args := #[s, x], argTypes := #[61, 61] }) (v : Value) (n : Nat) (xs : List Value) (hs : act.eval s = v) (hown : w.ownsRow 0 56 1 v n xs)
    (g : Nat) (u : Value) (hx : act.eval x = .slice (some ⟨g, 0, none⟩) 1 1) (hc : w.cell? ⟨g, 0, none⟩ = some u) (hu : u.oneCell' = true) (hlen : n ≤ 10000000)
    (h : ∀ v' w', Grew w w' 56 v v' (n + 1) (xs ++ [u]) → wpList Tryz.prog ops Q rest (act.put o.dst v') w') : wpList Tryz.prog ops Q (o :: rest) act w := by
  obtain ⟨i0, hi, hz0, hz1, hz2⟩ := infoB
  refine wpList_append_own_at _ hgd s x 61 ho 0 56 i0 (.slice none 0 0) 1 24 Tryz.underlying61 hi hz0 hz1 hz2 rfl (by decide) v n xs hs hown ⟨g, 0, none⟩ 1 1 [u] hx rfl ?_ (fun y hy => by rw [List.mem_singleton.1 hy]; exact hu) (by unfold maxLen; omega) (by omega) (Nat.zero_le _) (fun v' w' h1 h2 _ h4 => h v' w' ⟨h1, h2, h4⟩)
  intro j y hj
  match j, hj with
  | 0, hj =>
    obtain rfl : u = y := by simpa using hj
    rw [Addr.add_mid]; exact hc
set_option maxRecDepth 100000 in
theorem append_bb1 {w : World} {ops : Array Oper} {rest : List Oper} {o : Oper} {act : Act} {Q : Exit → Act → World → Prop} (hgd : o.guard = none) (s x : Operand)
    (ho : o.op = .call { callee := .builtin .append, args := #[s, x], argTypes := #[59, 59] }) (v : Value) (n : Nat) (xs : List Value) (hs : act.eval s = v) (hown : w.ownsRow 0 61 1 v n xs)
    (g : Nat) (u : Value) (hx : act.eval x = .slice (some ⟨g, 0, none⟩) 1 1) (hc : w.cell? ⟨g, 0, none⟩ = some u) (hu : u.oneCell' = true) (hlen : n ≤ 10000000)
    (h : ∀ v' w', Grew w w' 61 v v' (n + 1) (xs ++ [u]) → wpList Tryz.prog ops Q rest (act.put o.dst v') w') : wpList Tryz.prog ops Q (o :: rest) act w := by
  obtain ⟨i0, hi, hz0, hz1, hz2⟩ := infoBB
  refine wpList_append_own_at _ hgd s x 59 ho 0 61 i0 (.slice none 0 0) 1 24 Tryz.underlying59 hi hz0 hz1 hz2 rfl (by decide) v n xs hs hown ⟨g, 0, none⟩ 1 1 [u] hx rfl ?_ (fun y hy => by rw [List.mem_singleton.1 hy]; exact hu) (by unfold maxLen; omega) (by omega) (Nat.zero_le _) (fun v' w' h1 h2 _ h4 => h v' w' ⟨h1, h2, h4⟩)
  intro j y hj
  match j, hj with
  | 0, hj =>
    obtain rfl : u = y := by simpa using hj
    rw [Addr.add_mid]; exact hc
set_option maxRecDepth 100000 in
theorem append_t {w : World} {ops : Array Oper} {rest : List Oper} {o : Oper} {act : Act} {Q : Exit → Act → World → Prop} (hgd : o.guard = none) (s x : Operand)
    (ho : o.op = .call { callee := .builtin .append, args := #[s, x], argTypes := #[56, 56] }) (v : Value) (n : Nat) (xs : List Value) (hs : act.eval s = v) (hown : w.ownsRow 0 5 1 v n xs)
    (ad : Addr) (bs : List UInt8) (m cap : Nat) (hm : bs.length = m) (hx : act.eval x = .slice (some ad) m cap) (hA : At w (some ad) bs) (hlen : n + m ≤ 1000000000)
    (h : ∀ v' w', Grew w w' 5 v v' (n + m) (xs ++ S bs) → wpList Tryz.prog ops Q rest (act.put o.dst v') w') : wpList Tryz.prog ops Q (o :: rest) act w := by
  obtain ⟨i0, hi, hz0, hz1, hz2⟩ := info5all
  refine wpList_append_own_at _ hgd s x 56 ho 0 5 i0 (.int .u8 0) 1 1 Tryz.underlying56 hi hz0 hz1 hz2 rfl (by decide) v n xs hs hown ad m cap (S bs) hx (by rw [length_S]; omega) ?_ (one_S bs) (by unfold maxLen; omega) (by omega) (Nat.zero_le _) (fun v' w' h1 h2 _ h4 => h v' w' ⟨h1, h2, h4⟩)
  intro j y hj
  rw [S_get] at hj
  obtain ⟨c, hc, rfl⟩ := Option.map_eq_some_iff.1 hj
  obtain ⟨b, o', e, h1⟩ := hA j c hc
  obtain rfl : ad = ⟨b, o', none⟩ := by simpa using e
  rw [Addr.add_mid]; exact h1
/-- What a row's growing touches. -/
theorem Grew.touch {w w' : World} {e : TypeId} {v v' : Value} {n : Nat} {xs : List Value} (h : Grew w w' e v v' n xs) : Touch (fun k => v.ownBlock = some k) w w' := ⟨h.2.1.os, h.2.1.tape, h.2.1.output, h.2.1.size, fun k hk hn => h.2.1.block k hk (fun c => hn c.symm)⟩
set_option maxRecDepth 100000 in
theorem Grew.lt {w w' : World} {e : TypeId} {v v' : Value} {n : Nat} {xs : List Value} (h : Grew w w' e v v' n xs) {B : Nat} (hB : B ≤ w.heap.size) (hv : ∀ k, v.ownBlock = some k → B ≤ k) : ∀ k, v'.ownBlock = some k → B ≤ k := by
  intro k hk
  rcases h.2.2 with c | c
  · exact hv k (by rw [← c]; exact hk)
  · rw [c] at hk; cases hk; exact hB
set_option maxRecDepth 100000 in
theorem row_type {w : World} {B : Nat} {e : TypeId} {v : Value} {n : Nat} {xs : List Value} (h : w.ownsRow B e 1 v n xs) {k : Nat} (hk : v.ownBlock = some k) : ∃ cur, w.heap[k]? = some (.cells cur e (0, 0)) := by
  rcases h.2 with ⟨rfl, _⟩ | ⟨g, cap, cur, rfl, hb', hgg, rest⟩
  · cases hk
  · obtain rfl : g = k := by simpa [Value.ownBlock] using hk
    exact ⟨cur, hgg⟩
set_option maxRecDepth 100000 in
theorem row_touch {w w' : World} {T : Nat → Prop} {B : Nat} {e : TypeId} {v : Value} {n : Nat} {xs : List Value} (h : w.ownsRow B e 1 v n xs) (ht : Touch T w w') (hn : ∀ k, v.ownBlock = some k → ¬ T k) : w'.ownsRow B e 1 v n xs := by
  refine ⟨h.1, ?_⟩
  rcases h.2 with hh | ⟨g, cap, cur, rfl, hb', hgg, rest⟩
  · exact .inl hh
  · refine .inr ⟨g, cap, cur, rfl, hb', ?_, rest⟩
    rw [ht.block g (Array.getElem?_eq_some_iff.1 hgg).1 (hn g rfl)]; exact hgg
set_option maxRecDepth 100000 in
theorem row_base {w : World} {B C : Nat} {e : TypeId} {v : Value} {n : Nat} {xs : List Value} (h : w.ownsRow B e 1 v n xs) (hb : ∀ k, v.ownBlock = some k → C ≤ k) : w.ownsRow C e 1 v n xs := by
  refine ⟨h.1, ?_⟩
  rcases h.2 with hh | ⟨g, cap, cur, rfl, hb', rest⟩
  · exact .inl hh
  · exact .inr ⟨g, cap, cur, rfl, hb g rfl, rest⟩
set_option maxRecDepth 100000 in
theorem row_low {w : World} {B : Nat} {e : TypeId} {v : Value} {n : Nat} {xs : List Value} (h : w.ownsRow B e 1 v n xs) {k : Nat} (hk : v.ownBlock = some k) : B ≤ k ∧ k < w.heap.size := by
  rcases h.2 with ⟨rfl, _⟩ | ⟨g, cap, cur, rfl, hb', hgg, rest⟩
  · cases hk
  · obtain rfl : g = k := by simpa [Value.ownBlock] using hk
    exact ⟨hb', (Array.getElem?_eq_some_iff.1 hgg).1⟩
set_option maxRecDepth 100000 in
theorem Touch.at' {T : Nat → Prop} {w w' : World} (h : Touch T w w') {k : Nat} {o : Obj} (hk : w.heap[k]? = some o) (hn : ¬ T k) : w'.heap[k]? = some o := by
  rw [h.block k (Array.getElem?_eq_some_iff.1 hk).1 hn]; exact hk
set_option maxRecDepth 100000 in
/-- A whole struct is stored. -/
theorem wp_store_row {P : Program} {o : Oper} {a : Act} {w : World} {K : Act → World → Prop} {Q : Exit → Act → World → Prop} (x y : Operand) (t : TypeId) (ho : o.op = .store t x y) (g : Nat) (cells old : Array Value) (u : TypeId)
    (hx : a.eval x = .pointer (some ⟨g, 0, none⟩)) (hy : a.eval y = .agg cells) (hg : w.heap[g]? = some (.cells old u (0, 0))) (hi : (P.info? t).map (·.size) = some cells.size) (hs : old.size = cells.size) (h1 : cells.all (·.oneCell') = true)
    (h : K (a.put o.dst undef) (w.setRow g cells)) : o.wp P a w K Q := by
  have hst := run_storeVar_row (P := P) w g u t old cells hg hi hs h1
  unfold Oper.wp execOp
  rw [ho]
  simp only [hx, hy, Instr.storeAt, Instr.sureAddr, Sem.run_bind, Sem.run_pure, Result.andThen_ok, hst]
  exact h
end Go.Proofs.YtllkplanjfnnmaaGreatDoor

/- A log's small calls. -/
namespace Go.Proofs.YtllkplanjfnnmaaGreatDoor
open Go.RowKit

set_option maxRecDepth 100000 in
theorem lmade_nil (w : World) : Calls Tryz.prog 38 #[.pointer none] w (Tells (.bool false) w) := by
  go_enter Tryz.func38, Tryz.ntmps38
  go_wp2
  go_ret
  exact ⟨rfl, rfl⟩
set_option maxRecDepth 100000 in
theorem lmade_zero (l : Nat) (w : World) (c0 : w.cell? ⟨l, 0, none⟩ = some (.pointer none)) : Calls Tryz.prog 38 #[Ptr l] w (Tells (.bool false) w) := by
  go_enter Tryz.func38, Tryz.ntmps38
  go_wp2
  go_ret
  exact ⟨rfl, rfl⟩
set_option maxRecDepth 100000 in
theorem lmade_yes (l p : Nat) (w : World) (c0 : w.cell? ⟨l, 0, none⟩ = some (Ptr p)) : Calls Tryz.prog 38 #[Ptr l] w (Tells (.bool true) w) := by
  go_enter Tryz.func38, Tryz.ntmps38
  go_wp2
  go_ret
  exact ⟨rfl, rfl⟩
set_option maxRecDepth 100000 in
theorem waiting_nil (w : World) : Calls Tryz.prog 14 #[.pointer none] w (Tells (.int .i64 0) w) := by
  go_enter Tryz.func14, Tryz.ntmps14
  go_wp2
  go_ret
  exact ⟨rfl, rfl⟩
set_option maxRecDepth 100000 in
theorem waiting_any (l : Nat) (n : Int) (w : World) (c0 : w.cell? ⟨l, 7, none⟩ = some (.int .i64 n)) : Calls Tryz.prog 14 #[Ptr l] w (Tells (.int .i64 n) w) := by
  go_enter Tryz.func14, Tryz.ntmps14
  go_wp2
  go_ret
  exact ⟨rfl, rfl⟩
set_option maxRecDepth 100000 in
theorem used_nil (w : World) : Calls Tryz.prog 18 #[.pointer none] w (Tells (.int .i64 0) w) := by
  go_enter Tryz.func18, Tryz.ntmps18
  go_wp2
  go_ret
  exact ⟨rfl, rfl⟩
set_option maxRecDepth 100000 in
theorem used_any (l : Nat) (n : Int) (w : World) (c0 : w.cell? ⟨l, 6, none⟩ = some (.int .i64 n)) : Calls Tryz.prog 18 #[Ptr l] w (Tells (.int .i64 n) w) := by
  go_enter Tryz.func18, Tryz.ntmps18
  go_wp2
  go_ret
  exact ⟨rfl, rfl⟩
set_option maxRecDepth 100000 in
theorem room_nil (w : World) : Calls Tryz.prog 19 #[.pointer none] w (Tells (.int .i64 0) w) := by
  go_enter Tryz.func19, Tryz.ntmps19
  go_wp2
  go_ret
  exact ⟨rfl, rfl⟩
set_option maxRecDepth 100000 in
theorem lroom_any (l : Nat) (n m : Int) (w : World) (c2 : w.cell? ⟨l, 2, none⟩ = some (.int .i64 n)) (c6 : w.cell? ⟨l, 6, none⟩ = some (.int .i64 m)) (h0 : 0 ≤ m) (h1 : m ≤ n) (h2 : n ≤ 10000) : Calls Tryz.prog 19 #[Ptr l] w (Adding (.int .i64 (n - m)) w) := by
  go_enter Tryz.func19, Tryz.ntmps19
  go_wp2
  go_region
  go_wp2
  go_ret
  exact ⟨rfl, (Touch.refl _ w).drew⟩
set_option maxRecDepth 100000 in
theorem sectorsOf_any (n : Nat) (w : World) (h : n ≤ 1000000000) : Calls Tryz.prog 40 #[.int .i64 (n : Int)] w (Tells (.int .i64 (W.secs n : Int)) w) := by
  have HN := hid (show (W.secs n : Int) = (4 + (n : Int) + 232) / 233 by unfold W.secs; omega)
  go_enter Tryz.func40, Tryz.ntmps40
  go_wp2
  go_ret
  refine ⟨?_, rfl⟩
  rw [HN.out]
  go_num
set_option maxRecDepth 100000 in
theorem kindBehind_any (n : Nat) (w : World) : Calls Tryz.prog 67 #[.int .i64 (n : Int)] w (Tells (.int .u8 ((W.kind n).toNat : Int)) w) := by
  by_cases h : n = 0
  · subst h
    go_enter Tryz.func67, Tryz.ntmps67
    go_wp2
    go_ret
    exact ⟨rfl, rfl⟩
  · have h' : ¬ (n : Int) = 0 := by omega
    have HK := hid (show W.kind n = 2 by unfold W.kind; rw [if_neg h])
    go_enter Tryz.func67, Tryz.ntmps67
    go_wp2
    go_ret
    rw [HK.out]
    exact ⟨rfl, rfl⟩
set_option maxRecDepth 100000 in
theorem number_any (n : Nat) (w : World) (h : n < 1000000000) : Calls Tryz.prog 41 #[.int .i64 (n : Int)] w (POwn w (M.enc n)) := by
  have H := hid (putUint_any none [] 0 n w (by decide) (by omega) (fun _ => rfl) (At.nil _ _))
  go_enter Tryz.func41, Tryz.ntmps41
  go_wp2_with (first | (go_at_call 63; refine H.out.mono ?_; rintro e w1 ⟨v, rfl, h1, h2⟩; have HQ := hid (And.intro h1 h2); clear h1 h2))
  go_ret
  exact ⟨v, rfl, HQ.out.1, HQ.out.2⟩
set_option maxRecDepth 100000 in
theorem mark_any (l e i : Nat) (w : World) (c3 : w.cell? ⟨l, 3, none⟩ = some (.int .i64 (e : Int))) (he : e ≤ 1000000000) (hi : i ≤ 20000) : Calls Tryz.prog 66 #[Ptr l, .int .i64 (i : Int)] w (Tells (.int .u64 (W.mark e i : Int)) w) := by
  have HM := hid (show (W.mark e i : Int) = (e : Int) * 16777216 + i + 1 by unfold W.mark; omega)
  go_enter Tryz.func66, Tryz.ntmps66
  go_wp2
  go_ret
  refine ⟨?_, rfl⟩
  rw [HM.out]
  go_num
end Go.Proofs.YtllkplanjfnnmaaGreatDoor

/- A group's records. -/
namespace Go.Proofs.YtllkplanjfnnmaaGreatDoor
open Go.RowKit

set_option maxRecDepth 100000 in
/-- What lies above a reader may turn. -/
theorem RD.above {w w' : World} {T : Nat → Prop} {p : Nat} {s : M.St} (h : RD w (Ptr p) s) (hT : Touch T w w') (hp : ∀ k, T k → p < k) : RD w' (Ptr p) s := by
  rcases h with ⟨e, _⟩ | ⟨q, e, hb, hs⟩ | ⟨q, e, hR⟩
  · cases e
  · obtain rfl : p = q := by simpa using e
    exact .inr (.inl ⟨p, rfl, hT.at' hb (fun c => by have := hp p c; omega), hs⟩)
  · obtain rfl : p = q := by simpa using e
    obtain ⟨a, cap, hb, hL⟩ := hR.box
    refine .inr (.inr ⟨p, rfl, ⟨⟨a, cap, hT.at' hb (fun c => by have := hp p c; omega), ⟨hL.at_.block (fun b o e hb => hT.block b hb (fun c => by have h1 : b < p := (hL.low _ e).2; have := hp b c; omega)), hL.room, hL.non, hL.low⟩⟩, hR.good, hR.len, hR.err⟩⟩)
/-- A list of slices in new memory. -/
structure Fresh (B : Nat) (w : World) (v : Value) (hs : List Part) : Prop where
  rows : w.ownsRow 0 56 1 v hs.length (hs.map PV)
  own : ∀ k, v.ownBlock = some k → B ≤ k
  data : ∀ x ∈ hs, PQ w (fun k => B ≤ k ∧ v.ownBlock ≠ some k) x
theorem Fresh.touch {B : Nat} {w w' : World} {T : Nat → Prop} {v : Value} {hs : List Part} (h : Fresh B w v hs) (hT : Touch T w w') (hn : ∀ k, B ≤ k → ¬ T k) : Fresh B w' v hs :=
  ⟨row_touch h.rows hT (fun k hk => hn k (h.own k hk)), h.own, fun x hx => (h.data x hx).touch hT (fun k q => hn k q.1)⟩
theorem Fresh.low {B C : Nat} {w : World} {v : Value} {hs : List Part} (h : Fresh B w v hs) (hB : C ≤ B) : Fresh C w v hs :=
  ⟨h.rows, fun k hk => Nat.le_trans hB (h.own k hk), fun x hx => (h.data x hx).mono (fun _ _ q => ⟨Nat.le_trans hB q.1, q.2⟩)⟩
theorem Fresh.nil (B : Nat) (w : World) : Fresh B w (.slice none 0 0) [] := ⟨World.ownsRow_nil _ _ _ _, fun _ hk => (by cases hk), fun _ hx => (by cases hx)⟩
set_option maxRecDepth 100000 in
/-- One more. -/
theorem Fresh.more {B : Nat} {w w1 w2 : World} {v v' : Value} {hs : List Part} {x : Part} (h : Fresh B w v hs) (hA : Adds w w1) (hG : Grew w1 w2 56 v v' (hs.length + 1) (hs.map PV ++ [PV x])) (hB : B ≤ w.heap.size) (hx : PQ w1 (fun k => B ≤ k ∧ v.ownBlock ≠ some k) x) : Fresh B w2 v' (hs ++ [x]) := by
  have hw := hA.size
  have hlt : ∀ k, k < w1.heap.size → v.ownBlock ≠ some k → v'.ownBlock ≠ some k := fun k hk hn c => by
    rcases hG.2.2 with e | e
    · exact hn (by rw [← e]; exact c)
    · rw [e] at c; cases c; omega
  refine ⟨by rw [List.length_append, List.map_append]; exact hG.1, hG.lt (by omega) h.own, fun y hy => ?_⟩
  rcases List.mem_append.1 hy with hy | hy
  · have q := ((h.data y hy).adds hA).mono (Q' := fun k => B ≤ k ∧ v.ownBlock ≠ some k ∧ v'.ownBlock ≠ some k) (fun k hk q => ⟨q.1, q.2, hlt k hk q.2⟩)
    exact (q.touch hG.touch (fun k q => q.2.1)).mono (fun k _ q => ⟨q.1, q.2.2⟩)
  · obtain rfl := List.mem_singleton.1 hy
    have q := hx.mono (Q' := fun k => B ≤ k ∧ v.ownBlock ≠ some k ∧ v'.ownBlock ≠ some k) (fun k hk q => ⟨q.1, q.2, hlt k hk q.2⟩)
    exact (q.touch hG.touch (fun k q => q.2.1)).mono (fun k _ q => ⟨q.1, q.2.2⟩)
/-- What records tells. -/
def PRecs (w : World) (ls : List (List UInt8)) (e : Ending) (w' : World) : Prop := ∃ v hs, e = .returned v ∧ Hid (Fresh w.heap.size w' v hs ∧ hs.map (·.bs) = ls ∧ Adds w w')

set_option maxRecDepth 100000 in
theorem str_part (bs : List UInt8) (w : World) : ∃ cap w1, (convert 9 56 (.string ⟨bs.toArray⟩)).run Tryz.prog w = .ok (.slice (some ⟨w.heap.size, 0, none⟩) bs.length cap) w1 ∧ PQ w1 (fun k => k = w.heap.size) ⟨some ⟨w.heap.size, 0, none⟩, bs, cap⟩ ∧ Adds w w1 := by
  obtain ⟨cap, w1, h1, h2, h3⟩ := str_bytes bs w
  exact ⟨cap, w1, h1, ⟨h2.cq (fun b o e => by cases e; rfl), fun e => by cases e⟩, h3⟩

set_option maxRecDepth 100000 in
set_option maxHeartbeats 2000000 in
theorem records_any (a : Option Addr) (g : List UInt8) (n cap : Nat) (hn : g.length = n) (w : World) (hl : n ≤ 1000000) (hcap : a = none → cap = 0) (hA : At w a g) : Calls Tryz.prog 46 #[.slice a n cap] w (PRecs w (W.recs g)) := by
  have HR := hid (show Calls Tryz.prog 71 #[.slice a n cap] w (PRead w g) by rw [← hn]; exact read_any a g cap w (by omega) hcap hA)
  obtain ⟨s0, hs0⟩ : ∃ s0, s0 = (M.uintR g.length ⟨0, g⟩).2 := ⟨_, rfl⟩
  obtain ⟨N, hN⟩ : ∃ N, N = (M.uintR g.length ⟨0, g⟩).1 := ⟨_, rfl⟩
  have hN1 : N ≤ n := by rw [hN, ← hn]; exact (M.uintR_lt _ _).2
  have HU := hid (fun w1 p (h : RD w1 (Ptr p) ⟨0, g⟩) => show Calls Tryz.prog 72 #[Ptr p, .int .u64 (n : Int)] w1 (PR w1 (Ptr p) (.int .u64 (N : Int)) s0) by rw [hN, hs0, ← hn]; exact uint_any g.length h)
  have HT := hid (fun w1 p s (h : RD w1 (Ptr p) s) => show Calls Tryz.prog 73 #[Ptr p, .int .i64 (n : Int)] w1 (PR w1 (Ptr p) (.string ⟨(M.textR (n : Int) s).1.toArray⟩) (M.textR (n : Int) s).2) from text_any (n : Int) (by omega) h)
  have HE := hid (fun w1 p s (h : RD w1 (Ptr p) s) => end_any h)
  have HQ := hid (show W.recs g = if M.endE (W.stN (n : Int) s0 N) = 0 then W.lsN (n : Int) s0 N else [] by rw [W.recs, W.recsM, hN, hs0, hn])
  clear hcap hA hs0 hN hn
  go_enter Tryz.func46, Tryz.ntmps46
  go_wp2_with (first
    | (go_at_call 71; refine HR.out.mono ?_; rintro e w1 ⟨p, rfl, hp, hr, hA1⟩; have H1 := hid (And.intro hp (And.intro hr hA1)); clear hp hr hA1)
    | (go_at_call 72; refine (HU.out w1 p H1.out.2.1).mono ?_; rintro e w2 ⟨rfl, hr2, hT2⟩; have H2 := hid (And.intro hr2 (Adds.own H1.out.2.2 hT2 H1.out.1)); clear hr2 hT2))
  go_loopw [4, 12] (fun v i wr => ∃ (k : Nat) (hs : List Part), k ≤ N ∧ i = .int .u64 (k : Int) ∧ hs.length = k ∧ Hid (Fresh (p + 1) wr v hs ∧ hs.map (·.bs) = W.lsN (n : Int) s0 k ∧ RD wr (Ptr p) (W.stN (n : Int) s0 k) ∧ Adds w wr)) (fun _ i _ => N - (intOf i).toNat)
  case atStart => exact ⟨0, [], by omega, rfl, rfl, Fresh.nil _ _, rfl, H2.out.1, H2.out.2⟩
  case round =>
    obtain ⟨k, hs, hk, rfl, hlen, HI⟩ := hrel
    by_cases hlt : k < N
    · obtain ⟨t, ht⟩ : ∃ t, t = (M.textR (n : Int) (W.stN (n : Int) s0 k)).1 := ⟨_, rfl⟩
      have HX := hid (HT.out wr p _ HI.out.2.2.1)
      rw [← ht] at HX
      have HL := hid (And.intro ht hlen)
      clear ht hlen
      go_wp2_with (first
        | (go_at_call 73; refine HX.out.mono ?_; rintro e w3 ⟨rfl, hr3, hT3⟩
           obtain ⟨cx, w4, hrx, hpx, hAx⟩ := str_part t w3
           have hF3 := HI.out.1.touch hT3 (fun k hk c => by simp only [Own1, Value.pointer.injEq, Option.some.injEq, Addr.mk.injEq] at c; omega)
           have HA3 := hid (show (w4.alloc (.cells #[.slice (some ⟨w3.heap.size, 0, none⟩) t.length cx] 56)).ownsRow 0 56 1 u4 k (hs.map PV) by have q := row_touch hF3.rows (hAx.alloc (.cells #[.slice (some ⟨w3.heap.size, 0, none⟩) t.length cx] 56)) (fun _ _ => id); rw [HL.out.2] at q; exact q)
           have HA4 := hid (show (w4.alloc (.cells #[.slice (some ⟨w3.heap.size, 0, none⟩) t.length cx] 56)).cell? ⟨w4.heap.size, 0, none⟩ = some (.slice (some ⟨w3.heap.size, 0, none⟩) t.length cx) from cellOf (heap_alloc_new w4 _) 0)
           have H3 := hid (And.intro hr3 (And.intro hF3 (And.intro hpx (And.intro hAx (Adds.own HI.out.2.2.2 hT3 H1.out.1)))))
           clear hr3 hT3 hpx hAx hF3)
        | (at_builtin; refine append_b1 rfl _ _ rfl u4 k (hs.map PV) rfl HA3.out w4.heap.size (.slice (some ⟨w3.heap.size, 0, none⟩) t.length cx) rfl HA4.out rfl (by omega) ?_; intro v5 w5 G5; have HG := hid G5; clear G5))
      go_roundw
      case rel =>
        obtain ⟨hr3, hF3, hpx, hAx, hA3⟩ := H3.out
        have hAy : Adds w3 (w4.alloc (.cells #[.slice (some ⟨w3.heap.size, 0, none⟩) t.length cx] 56)) := hAx.alloc _
        have hp3 : p < w3.heap.size := hr3.lt
        have hG := HG.out
        refine ⟨k + 1, hs ++ [⟨some ⟨w3.heap.size, 0, none⟩, t, cx⟩], by omega, by go_num, by simp [HL.out.2], ?_, ?_, ?_, ?_⟩
        · refine hF3.more hAy (by rw [HL.out.2]; exact hG) hp3 ?_
          exact (hpx.adds ((Touch.refl _ w4).alloc _)).mono (fun j _ q => ⟨by omega, fun c => by have := (row_low hF3.rows c).2; omega⟩)
        · rw [List.map_append, HI.out.2.1, W.lsN, ← HL.out.1]; rfl
        · exact (hr3.above hAy (fun _ c => c.elim)).above hG.touch (fun j c => hF3.own j c)
        · exact (hA3.trans hAy).then hG.touch (fun j hj c => by have := hF3.own j c; have := H1.out.1; omega)
      case measure => simp [intOf]; omega
    · obtain rfl : k = N := by omega
      have HX := hid (HE.out wr p _ HI.out.2.2.1)
      by_cases hz : M.endE (W.stN (n : Int) s0 k) = 0
      · rw [hz] at HX
        have HW := hid (show W.recs g = W.lsN (n : Int) s0 k by rw [HQ.out, if_pos hz])
        clear hz
        go_wp2_with (first | (go_at_call 74; refine HX.out.mono ?_; rintro e _ ⟨rfl, hw⟩; rw [hw]; clear hw))
        go_ret
        exact ⟨_, hs, rfl, HI.out.1.low (by have := H1.out.1; omega), by rw [HW.out]; exact HI.out.2.1, HI.out.2.2.2⟩
      · have HW := hid (show W.recs g = [] by rw [HQ.out, if_neg hz])
        obtain ⟨z, hz2⟩ : ∃ z, z = M.endE (W.stN (n : Int) s0 k) := ⟨_, rfl⟩
        rw [← hz2] at HX hz
        have hz' : ¬ (z : Int) = 0 := by omega
        clear hz hz2
        go_wp2_with (first | (go_at_call 74; refine HX.out.mono ?_; rintro e _ ⟨rfl, hw⟩; rw [hw]; clear hw))
        go_ret
        exact ⟨_, [], rfl, Fresh.nil _ _, by rw [HW.out]; rfl, HI.out.2.2.2⟩
end Go.Proofs.YtllkplanjfnnmaaGreatDoor

/- A group's pieces. -/
namespace Go.Proofs.YtllkplanjfnnmaaGreatDoor
open Go.RowKit

def W.pieces (g : List UInt8) : List (List UInt8) := (List.range (W.secs g.length)).map (W.piece (W.full g))
set_option maxRecDepth 100000 in
theorem run_mid (b len cap l h : Nat) (h1 : l < h) (h2 : h ≤ cap) (w : World) : (Instr.sliceAt 56 (.slice (some ⟨b, 0, none⟩) len cap) (some (.int .i64 (l : Int))) (some (.int .i64 (h : Int))) (some (.int .i64 (h : Int)))).run Tryz.prog w = .ok (.slice (some ⟨b, l, none⟩) (h - l) (h - l)) w := by
  have hsz : (sizeOf 5).run Tryz.prog w = .ok 1 w := by kernel_rfl
  rw [run_sliceAt_slice w 56 _ _ _ _ Tryz.underlying56, run_slice_lhm w 56 _ len cap Tryz.underlying56 .i64 .i64 .i64 l h h (by omega) (by omega) (by omega) (by omega)]
  have he : Tryz.prog.elem 56 = 5 := by kernel_rfl
  rw [he, hsz]
  simp only [Result.andThen, sliced, Int.toNat_natCast, Nat.mul_one]
  rw [if_neg (by omega)]
  simp [Addr.add_mid]

set_option maxRecDepth 100000 in
theorem cut_mem {w w2 wr w5 : World} {v v5 : Value} {hs : List Part} {g : List UInt8} {ab ac n k sc X PL : Nat} {i : Value} (hF : Fresh w.heap.size wr v hs) (hbs : hs.map (·.bs) = (List.range k).map (W.piece (W.full g))) (hv : ∀ j, v.ownBlock = some j → w2.heap.size ≤ j) (hA : Adds w2 wr)
    (ho : w2.ownsRow X 5 1 (.slice (some ⟨ab, 0, none⟩) (4 + n) ac) (4 + n) (S (W.full g))) (hab : X ≤ ab) (hX : w.heap.size ≤ X) (hlen : hs.length = k) (hlt : k < sc)
    (hG : Grew (wr.alloc (.cells #[.slice (some ⟨ab, 233 * k, none⟩) PL PL] 56)) w5 56 v v5 (k + 1) (hs.map PV ++ [.slice (some ⟨ab, 233 * k, none⟩) PL PL])) (hP : PL = (W.piece (W.full g) k).length) (hi : i = .int .i64 ((233 * (k + 1) : Nat) : Int)) :
    ∃ (k' : Nat) (hs' : List Part), k' ≤ sc ∧ i = .int .i64 ((233 * k' : Nat) : Int) ∧ hs'.length = k' ∧ Hid (Fresh w.heap.size w5 v5 hs' ∧ hs'.map (·.bs) = (List.range k').map (W.piece (W.full g)) ∧ (∀ j, v5.ownBlock = some j → w2.heap.size ≤ j) ∧ Adds w2 w5) := by
  subst hP
  have hAt : At wr (some ⟨ab, 233 * k, none⟩) (W.piece (W.full g) k) := by
    have := (((At.own ho).suf (233 * k)).pre 233).adds hA
    rwa [Nat.zero_add] at this
  have hlow := (row_low (k := ab) ho rfl).2
  have hsz := hA.size
  refine ⟨k + 1, hs ++ [⟨some ⟨ab, 233 * k, none⟩, W.piece (W.full g) k, (W.piece (W.full g) k).length⟩], hlt, hi, by rw [List.length_append, hlen]; rfl, ?_, ?_, ?_, ?_⟩
  · refine hF.more ((Touch.refl _ wr).alloc _) (by rw [hlen]; exact hG) (by omega) ⟨(hAt.adds ((Touch.refl _ wr).alloc _)).cq (fun b o e => by cases e; exact ⟨by omega, fun c => by have := hv _ c; omega⟩), fun e => by cases e⟩
  · rw [List.map_append, hbs, List.range_succ, List.map_append]; rfl
  · exact hG.lt (by simp; omega) hv
  · exact (hA.alloc _).then hG.touch (fun j hj c => by have := hv j c; omega)
set_option maxRecDepth 100000 in
set_option maxHeartbeats 2000000 in
theorem cut_any (a : Option Addr) (g : List UInt8) (n cap : Nat) (hn : g.length = n) (w : World) (hl : n ≤ 2400000) (hcap : a = none → cap = 0) (hA : At w a g) : Calls Tryz.prog 45 #[.slice a n cap] w (PRecs w (W.pieces g)) := by
  have HP := hid (show Calls Tryz.prog 70 #[.slice none 0 0, .int .u64 (n : Int), .int .i64 4] w (POwn w (M.fix n 4)) from putFixed_any none [] 0 n 4 w (by decide) (fun _ => rfl) (At.nil _ _))
  have HC := hid (fun (w1 : World) (fa : Option Addr) (fc : Nat) (h1 : At w1 fa (M.fix n 4)) (h2 : fa = none → fc = 0) (h3 : At w1 a g) => show Calls Tryz.prog 43 #[.slice (some ⟨w1.heap.size, 0, none⟩) 2 2] (w1.alloc (.cells #[.slice fa 4 fc, .slice a n cap] 56)) (fun e w' => ∃ v, e = .returned v ∧ w'.ownsRow w1.heap.size 5 1 v (4 + n) (S (W.full g)) ∧ Adds w1 w') by
    have h : Calls Tryz.prog 43 #[.slice (some ⟨w1.heap.size, 0, none⟩) 2 2] (w1.alloc (.cells #[.slice fa (M.fix n 4).length fc, .slice a g.length cap] 56)) (fun e w' => ∃ v, e = .returned v ∧ w'.ownsRow w1.heap.size 5 1 v (M.fix n 4 ++ g).length (S (M.fix n 4 ++ g)) ∧ Adds w1 w') := concat_two ⟨fa, M.fix n 4, fc⟩ ⟨a, g, cap⟩ h1 h3 h2 hcap (by simp only [M.len_fix]; omega)
    rw [List.length_append, M.len_fix, hn] at h
    rw [W.full, hn]
    exact h)
  have HA := hid hA
  have HF := hid (show (W.full g).length = 4 + n by rw [W.len_full, hn])
  obtain ⟨sc, hsc⟩ : ∃ sc, sc = W.secs g.length := ⟨_, rfl⟩
  have hsc2 : sc = (4 + n + 232) / 233 := by rw [hsc, hn]; rfl
  have HS := hid hsc
  clear hcap hA hn hsc
  go_enter Tryz.func45, Tryz.ntmps45
  go_wp2_with (first
    | (go_at_call 70; refine HP.out.mono ?_; rintro e w1 ⟨v1, rfl, o1, A1⟩; rw [M.len_fix] at o1; obtain ⟨fa, fc, hv1, q1, q2, q3⟩ := own_cq o1; subst hv1
       have H1 := hid (And.intro A1 (And.intro q2 q3.at)); clear A1 q1 q2 q3 o1)
    | (go_at_call 43; refine (HC.out w1 fa fc H1.out.2.2 H1.out.2.1 (HA.out.adds H1.out.1)).mono ?_; rintro e w2 ⟨v2, rfl, o2, A2⟩; obtain ⟨ab, ac, hv2, hb2, hc2⟩ := Own.some o2 (by omega); subst hv2
       have H2 := hid (And.intro o2 (And.intro (H1.out.1.trans A2) (And.intro hb2 hc2))); clear o2 A2 hb2))
  go_loopw [4, 5] (fun v i wr => ∃ (k : Nat) (hs : List Part), k ≤ sc ∧ i = .int .i64 ((233 * k : Nat) : Int) ∧ hs.length = k ∧ Hid (Fresh w.heap.size wr v hs ∧ hs.map (·.bs) = (List.range k).map (W.piece (W.full g)) ∧ (∀ j, v.ownBlock = some j → w2.heap.size ≤ j) ∧ Adds w2 wr)) (fun _ i _ => 233 * sc - (intOf i).toNat)
  case atStart => exact ⟨0, [], by omega, rfl, rfl, Fresh.nil _ _, rfl, fun _ c => (by cases c), Touch.refl _ _⟩
  case round =>
    obtain ⟨k, hs, hk, rfl, hlen, HI⟩ := hrel
    by_cases hlt : k < sc
    · have h1 : 233 * k < 4 + n := by omega
      have HL := hid hlen
      clear hlen
      have HA3 := hid (fun o => show (wr.alloc o).ownsRow 0 56 1 u4 k (hs.map PV) by have q := row_touch HI.out.1.rows ((Touch.refl _ wr).alloc o) (fun _ _ => id); rw [HL.out] at q; exact q)
      by_cases hc : 4 + n < 233 * k + 233
      · have hc' : (4 + (n : Int)) < 233 * (k : Int) + 233 := by omega
        have hX : 4 + n - 233 * k = (W.piece (W.full g) k).length := by rw [W.piece, List.length_take, List.length_drop, HF.out]; omega
        have HX := hid hX
        clear hX
        go_wp2_with (first
          | (at_builtin; refine append_b1 rfl _ _ rfl u4 k (hs.map PV) rfl (HA3.out _) wr.heap.size _ rfl (cellOf (heap_alloc_new wr _) 0) rfl (by omega) ?_; intro v5 w5 G5; have HG := hid G5; clear G5))
        go_roundw
        case rel =>
          exact cut_mem HI.out.1 HI.out.2.1 HI.out.2.2.1 HI.out.2.2.2 H2.out.1 H2.out.2.2.1 H1.out.1.size HL.out hlt HG.out HX.out (by go_num)
        case measure => simp [intOf]; omega
      · have hc' : ¬ (4 + (n : Int)) < 233 * (k : Int) + 233 := by omega
        have hX : 233 = (W.piece (W.full g) k).length := by rw [W.piece, List.length_take, List.length_drop, HF.out]; omega
        have HX := hid hX
        clear hX
        go_wp2_with (first
          | (at_builtin; refine append_b1 rfl _ _ rfl u4 k (hs.map PV) rfl (HA3.out _) wr.heap.size _ rfl (cellOf (heap_alloc_new wr _) 0) rfl (by omega) ?_; intro v5 w5 G5; have HG := hid G5; clear G5))
        go_roundw
        case rel =>
          exact cut_mem HI.out.1 HI.out.2.1 HI.out.2.2.1 HI.out.2.2.2 H2.out.1 H2.out.2.2.1 H1.out.1.size HL.out hlt HG.out HX.out (by go_num)
        case measure => simp [intOf]; omega
    · have hk2 : k = sc := by omega
      have h1 : ¬ 233 * k < 4 + n := by omega
      have HL := hid (show (List.range k).map (W.piece (W.full g)) = W.pieces g by rw [W.pieces, hk2, HS.out])
      clear hlen
      go_wp2_with fail
      go_ret
      exact ⟨_, hs, rfl, HI.out.1, by rw [← HL.out]; exact HI.out.2.1, H2.out.2.1.trans HI.out.2.2.2⟩
end Go.Proofs.YtllkplanjfnnmaaGreatDoor

/- A log in memory; Drop, Begin, Append. -/
namespace Go.Proofs.YtllkplanjfnnmaaGreatDoor
open Go.RowKit

/-- A log's state: its sectors, its epoch, is it closed, the groups' bytes, the records that wait. -/
structure LS where
  fr : Nat
  ct : Nat
  ep : Nat
  cl : Bool
  G : List (List UInt8)
  R : List (List UInt8)
/-- A state that may be. -/
structure LS.Ok (L : LS) : Prop where
  fr : L.fr ≤ 4096
  ct : L.ct ≤ 10000
  ep : L.ep ≤ 1000000000
  us : W.usedOf L.G ≤ L.ct
  wt : L.R ≠ [] → W.secs (W.gbytes L.R).length ≤ L.ct - W.usedOf L.G
  good : ∀ g ∈ L.G, W.Good g
set_option maxRecDepth 100000 in
theorem secs_len {n m : Nat} (h : W.secs n ≤ m) : n ≤ 233 * m := by unfold W.secs at h; omega
set_option maxRecDepth 100000 in
theorem texts_le (R : List (List UInt8)) : (W.texts R).length ≤ (W.gbytes R).length := by rw [W.gbytes, List.length_append]; omega
set_option maxRecDepth 100000 in
theorem LS.Ok.len {L : LS} (h : L.Ok) : (W.texts L.R).length ≤ 2330000 ∧ L.R.length ≤ 2330000 := by
  by_cases hR : L.R = []
  · rw [hR]; simp [W.texts]
  · have h1 := secs_len (h.wt hR)
    have h2 := texts_le L.R
    have h3 := W.texts_len L.R
    have h4 := h.ct
    omega

/-- The log's box. -/
abbrev LBox (p : Nat) (L : LS) (gv tv : Value) : Obj := .cells #[Ptr p, .int .i64 (L.fr : Int), .int .i64 (L.ct : Int), .int .i64 (L.ep : Int), .bool L.cl, gv, .int .i64 (W.usedOf L.G : Int), .int .i64 (L.R.length : Int), tv] 83 (0, 0)
/-- Where a group's bytes may lie. -/
def DQ (O : Nat → Prop) (l : Nat) (gv tv : Value) : Nat → Prop := fun k => O k ∧ k ≠ l ∧ gv.ownBlock ≠ some k ∧ tv.ownBlock ≠ some k
structure IsLogV (w : World) (O : Nat → Prop) (l p : Nat) (gv tv : Value) (hs : List Part) (L : LS) : Prop where
  box : w.heap[l]? = some (LBox p L gv tv)
  rows : w.ownsRow 0 56 1 gv hs.length (hs.map PV)
  data : ∀ x ∈ hs, PQ w (DQ O l gv tv) x
  bytes : hs.map (·.bs) = L.G
  texts : w.ownsRow 0 5 1 tv (W.texts L.R).length (S (W.texts L.R))
  ol : O l
  og : ∀ k, gv.ownBlock = some k → O k
  ot : ∀ k, tv.ownBlock = some k → O k
def IsLog (w : World) (O : Nat → Prop) (l p : Nat) (L : LS) : Prop := ∃ gv tv hs, IsLogV w O l p gv tv hs L
theorem IsLogV.touch {w w' : World} {O T : Nat → Prop} {l p : Nat} {gv tv : Value} {hs : List Part} {L : LS} (h : IsLogV w O l p gv tv hs L) (hT : Touch T w w') (hn : ∀ k, O k → ¬ T k) : IsLogV w' O l p gv tv hs L :=
  ⟨hT.at' h.box (hn l h.ol), row_touch h.rows hT (fun k hk => hn k (h.og k hk)), fun x hx => (h.data x hx).touch hT (fun k hk => hn k hk.1), h.bytes, row_touch h.texts hT (fun k hk => hn k (h.ot k hk)), h.ol, h.og, h.ot⟩
theorem IsLogV.mono {w : World} {O O' : Nat → Prop} {l p : Nat} {gv tv : Value} {hs : List Part} {L : LS} (h : IsLogV w O l p gv tv hs L) (hn : ∀ k, O k → O' k) : IsLogV w O' l p gv tv hs L :=
  ⟨h.box, h.rows, fun x hx => (h.data x hx).mono (fun k _ hk => ⟨hn k hk.1, hk.2⟩), h.bytes, h.texts, hn l h.ol, fun k hk => hn k (h.og k hk), fun k hk => hn k (h.ot k hk)⟩
set_option maxRecDepth 100000 in
theorem IsLog.touch {w w' : World} {O T : Nat → Prop} {l p : Nat} {L : LS} (h : IsLog w O l p L) (hT : Touch T w w') (hn : ∀ k, O k → ¬ T k) : IsLog w' O l p L := by
  obtain ⟨gv, tv, hs, h⟩ := h
  exact ⟨gv, tv, hs, h.touch hT hn⟩
set_option maxRecDepth 100000 in
theorem IsLog.mono {w : World} {O O' : Nat → Prop} {l p : Nat} {L : LS} (h : IsLog w O l p L) (hn : ∀ k, O k → O' k) : IsLog w O' l p L := by
  obtain ⟨gv, tv, hs, h⟩ := h
  exact ⟨gv, tv, hs, h.mono hn⟩
theorem IsLog.adds {w w' : World} {O : Nat → Prop} {l p : Nat} {L : LS} (h : IsLog w O l p L) (hT : Adds w w') : IsLog w' O l p L := h.touch hT (fun _ _ => id)
set_option maxRecDepth 100000 in
theorem type_ne {w : World} {k l : Nat} {c d : Array Value} {t u : TypeId} {f g : Nat × Nat} (h : w.heap[k]? = some (.cells c t f)) (h' : w.heap[l]? = some (.cells d u g)) (hne : t ≠ u) : k ≠ l := by
  intro e; subst e
  rw [h] at h'
  simp at h'
  exact hne h'.2.1
set_option maxRecDepth 100000 in
theorem IsLogV.ne {w : World} {O : Nat → Prop} {l p : Nat} {gv tv : Value} {hs : List Part} {L : LS} (h : IsLogV w O l p gv tv hs L) : gv.ownBlock ≠ some l ∧ tv.ownBlock ≠ some l ∧ (∀ k, gv.ownBlock = some k → tv.ownBlock ≠ some k) := by
  refine ⟨fun e => ?_, fun e => ?_, fun k e e' => ?_⟩
  · obtain ⟨c, hc⟩ := row_type h.rows e; exact type_ne hc h.box (by decide) rfl
  · obtain ⟨c, hc⟩ := row_type h.texts e; exact type_ne hc h.box (by decide) rfl
  · obtain ⟨c, hc⟩ := row_type h.rows e; obtain ⟨d, hd⟩ := row_type h.texts e'; exact type_ne hc hd (by decide) rfl
/-- The box alone has turned. -/
theorem IsLogV.box' {w w' : World} {O : Nat → Prop} {l p : Nat} {gv tv : Value} {hs : List Part} {L L' : LS} (h : IsLogV w O l p gv tv hs L) (hT : Touch (fun k => k = l) w w') (tv' : Value) (hb : w'.heap[l]? = some (LBox p L' gv tv')) (hG : L'.G = L.G)
    (ht : w'.ownsRow 0 5 1 tv' (W.texts L'.R).length (S (W.texts L'.R))) (ho : ∀ k, tv'.ownBlock = some k → O k) (hd : ∀ k, k < w.heap.size → tv.ownBlock ≠ some k → tv'.ownBlock ≠ some k) : IsLogV w' O l p gv tv' hs L' :=
  ⟨hb, row_touch h.rows hT (fun k hk e => h.ne.1 (by rw [hk]; exact congrArg some e)), fun x hx => ((h.data x hx).mono (Q' := DQ O l gv tv') (fun k hk q => ⟨q.1, q.2.1, q.2.2.1, hd k hk q.2.2.2⟩)).touch hT (fun k q e => q.2.1 e), by rw [hG]; exact h.bytes, ht, h.ol, h.og, ho⟩

/-! ### Drop -/
def PDrop (w : World) (O : Nat → Prop) (l p : Nat) (L : LS) (e : Ending) (w' : World) : Prop := e = .returned (.int .i64 (L.R.length : Int)) ∧ IsLog w' O l p { L with R := [] } ∧ Touch (fun k => k = l) w w'
set_option maxRecDepth 100000 in
theorem drop_none (l : Nat) (w : World) (c7 : w.cell? ⟨l, 7, none⟩ = some (.int .i64 0)) : Calls Tryz.prog 27 #[Ptr l] w (Tells (.int .i64 0) w) := by
  have H := hid (waiting_any l 0 w c7)
  go_enter Tryz.func27, Tryz.ntmps27
  go_wp2_with (first | (go_at_call 14; refine H.out.mono ?_; rintro e _ ⟨rfl, hw⟩; rw [hw]; clear hw))
  go_ret
  exact ⟨rfl, rfl⟩
set_option maxRecDepth 100000 in
theorem drop_nil (w : World) : Calls Tryz.prog 27 #[.pointer none] w (Tells (.int .i64 0) w) := by
  have H := hid (waiting_nil w)
  go_enter Tryz.func27, Tryz.ntmps27
  go_wp2_with (first | (go_at_call 14; refine H.out.mono ?_; rintro e _ ⟨rfl, hw⟩; rw [hw]; clear hw))
  go_ret
  exact ⟨rfl, rfl⟩
set_option maxRecDepth 100000 in
theorem drop_some (l : Nat) (x0 x1 x2 x3 x4 x5 x6 x8 : Value) (n : Nat) (hn : 0 < n) (w : World) (hb : w.heap[l]? = some (.cells #[x0, x1, x2, x3, x4, x5, x6, .int .i64 (n : Int), x8] 83 (0, 0))) :
    Calls Tryz.prog 27 #[Ptr l] w fun e w' => e = .returned (.int .i64 (n : Int)) ∧ w' = w.setRow l #[x0, x1, x2, x3, x4, x5, x6, .int .i64 0, .slice none 0 0] := by
  have c7 : w.cell? ⟨l, 7, none⟩ = some (.int .i64 (n : Int)) := cellOf hb 7
  have c8 : w.cell? ⟨l, 8, none⟩ = some x8 := cellOf hb 8
  have f7 : w.frozen? ⟨l, 7, none⟩ = false := frozen_of_row w l 7 _ 83 hb
  have f8 : w.frozen? ⟨l, 8, none⟩ = false := frozen_of_row w l 8 _ 83 hb
  have H := hid (waiting_any l n w c7)
  have hn' : (0 : Int) < (n : Int) := by omega
  go_enter Tryz.func27, Tryz.ntmps27
  go_wp2_with (first | (go_at_call 14; refine H.out.mono ?_; rintro e _ ⟨rfl, hw⟩; rw [hw]; clear hw))
  go_ret
  refine ⟨rfl, ?_⟩
  rw [setCell_eq_setRow w l 7 _ 83 _ _ hb, setCell_eq_setRow _ l 8 _ 83 _ _ (setRow_heap w l _ _ 83 _ hb), setRow_setRow]; rfl
set_option maxRecDepth 100000 in
theorem drop_any {w : World} {O : Nat → Prop} {l p : Nat} {L : LS} (h : IsLog w O l p L) : Calls Tryz.prog 27 #[Ptr l] w (PDrop w O l p L) := by
  obtain ⟨gv, tv, hs, h⟩ := h
  by_cases hR : L.R = []
  · refine (drop_none l w (by rw [cellOf h.box 7, hR]; rfl)).mono ?_
    rintro e w' ⟨rfl, hw⟩
    subst hw
    have e2 : { L with R := [] } = L := by cases L; simp at hR; simp [hR]
    exact ⟨by rw [hR]; rfl, by rw [e2]; exact ⟨gv, tv, hs, h⟩, Touch.refl _ _⟩
  · refine (drop_some l _ _ _ _ _ _ _ _ L.R.length (by cases hq : L.R with | nil => exact absurd hq hR | cons a b => simp) w h.box).mono ?_
    rintro e w' ⟨rfl, hw⟩
    have hT : Touch (fun k => k = l) w w' := by rw [hw]; exact Touch.setRow (T := fun k => k = l) (Touch.refl _ w) (fun _ => rfl) _
    refine ⟨rfl, ⟨gv, .slice none 0 0, hs, h.box' hT (.slice none 0 0) (by rw [hw]; exact setRow_heap w l _ _ 83 _ h.box) rfl (World.ownsRow_nil _ _ _ _) (fun k hk => (by cases hk)) (fun k _ _ e => (by cases e))⟩, hT⟩

/-! ### Begin -/
set_option maxRecDepth 100000 in
theorem begin_nil (e : Int) (w : World) : Calls Tryz.prog 25 #[.pointer none, .int .i64 e] w (Tells (.int .i64 1) w) := by
  have H := hid (lmade_nil w)
  go_enter Tryz.func25, Tryz.ntmps25
  go_wp2_with (first | (go_at_call 38; refine H.out.mono ?_; rintro e _ ⟨rfl, hw⟩; rw [hw]; clear hw))
  go_ret
  exact ⟨rfl, rfl⟩
set_option maxRecDepth 100000 in
theorem begin_zero (l : Nat) (e : Int) (w : World) (c0 : w.cell? ⟨l, 0, none⟩ = some (.pointer none)) : Calls Tryz.prog 25 #[Ptr l, .int .i64 e] w (Tells (.int .i64 1) w) := by
  have H := hid (lmade_zero l w c0)
  go_enter Tryz.func25, Tryz.ntmps25
  go_wp2_with (first | (go_at_call 38; refine H.out.mono ?_; rintro e _ ⟨rfl, hw⟩; rw [hw]; clear hw))
  go_ret
  exact ⟨rfl, rfl⟩
set_option maxRecDepth 100000 in
theorem begin_bad (l p : Nat) (ep e : Int) (w : World) (c0 : w.cell? ⟨l, 0, none⟩ = some (Ptr p)) (c3 : w.cell? ⟨l, 3, none⟩ = some (.int .i64 ep)) (h : e ≤ ep ∨ 1000000000 < e) : Calls Tryz.prog 25 #[Ptr l, .int .i64 e] w (Tells (.int .i64 2) w) := by
  have H := hid (lmade_yes l p w c0)
  by_cases h1 : e ≤ ep
  · have d1 : decide (e ≤ ep) = true := by simpa using h1
    clear h
    go_enter Tryz.func25, Tryz.ntmps25
    go_wp2_with (first | (go_at_call 38; refine H.out.mono ?_; rintro e _ ⟨rfl, hw⟩; rw [hw]; clear hw))
    go_ret
    exact ⟨rfl, rfl⟩
  · have d1 : decide (e ≤ ep) = false := by simpa using h1
    have h2 : 1000000000 < e := by omega
    clear h
    go_enter Tryz.func25, Tryz.ntmps25
    go_wp2_with (first | (go_at_call 38; refine H.out.mono ?_; rintro e _ ⟨rfl, hw⟩; rw [hw]; clear hw))
    go_ret
    exact ⟨rfl, rfl⟩
set_option maxRecDepth 100000 in
theorem build_log (p : Nat) (fr ct e : Int) (w : World) : (Instr.build 83 #[(0, Ptr p), (1, .int .i64 fr), (2, .int .i64 ct), (3, .int .i64 e)]).run Tryz.prog w = .ok (.agg #[Ptr p, .int .i64 fr, .int .i64 ct, .int .i64 e, .bool false, .slice none 0 0, .int .i64 0, .int .i64 0, .slice none 0 0]) w := by kernel_rfl
set_option maxRecDepth 100000 in
theorem infoLog : (Tryz.prog.info? 83).map (·.size) = some 9 := by kernel_rfl
set_option maxRecDepth 100000 in
set_option maxHeartbeats 1000000 in
theorem begin_ok (l p : Nat) (fr ct : Int) (x4 x5 x6 x7 x8 : Value) (ep e : Int) (w : World) (hb : w.heap[l]? = some (.cells #[Ptr p, .int .i64 fr, .int .i64 ct, .int .i64 ep, x4, x5, x6, x7, x8] 83 (0, 0))) (h1 : ep < e) (h2 : e ≤ 1000000000) :
    Calls Tryz.prog 25 #[Ptr l, .int .i64 e] w fun r w' => r = .returned (.int .i64 0) ∧ w'.heap[l]? = some (.cells #[Ptr p, .int .i64 fr, .int .i64 ct, .int .i64 e, .bool false, .slice none 0 0, .int .i64 0, .int .i64 0, .slice none 0 0] 83 (0, 0)) ∧ Touch (fun k => k = l) w w' := by
  have c0 : w.cell? ⟨l, 0, none⟩ = some (Ptr p) := cellOf hb 0
  have c1 : w.cell? ⟨l, 1, none⟩ = some (.int .i64 fr) := cellOf hb 1
  have c2 : w.cell? ⟨l, 2, none⟩ = some (.int .i64 ct) := cellOf hb 2
  have c3 : w.cell? ⟨l, 3, none⟩ = some (.int .i64 ep) := cellOf hb 3
  have HBL := hid (fun w => build_log p fr ct e w)
  have HB := hid hb
  have d1 : decide (e ≤ ep) = false := by simp; omega
  have d2 : decide (1000000000 < e) = false := by simp; omega
  have H := hid (lmade_yes l p w c0)
  clear h1 h2 hb c1 c2
  go_enter Tryz.func25, Tryz.ntmps25
  go_upto_region 5 with (first | (go_at_call 38; refine H.out.mono ?_; rintro e _ ⟨rfl, hw⟩; rw [hw]; clear hw))
  refine E_begin (S := fun w' : World => w'.heap[l]? = some (.cells #[Ptr p, .int .i64 fr, .int .i64 ct, .int .i64 ep, x4, x5, x6, x7, x8] 83 (0, 0))) (X := 16) (by kernel_rfl) ?_
  have hS : (fun w' : World => w'.heap[l]? = some (.cells #[Ptr p, .int .i64 fr, .int .i64 ct, .int .i64 ep, x4, x5, x6, x7, x8] 83 (0, 0))) w.drew := HB.out
  refine E_put (i := 0) 20 (v := Ptr l) rfl rfl (by kernel_rfl) (by kernel_rfl) (by kernel_rfl) (by kernel_rfl) (fun _ _ _ h => h) (Or.inl ⟨by rfl, fun w' hw' => ?_⟩) hS ?_
  · go_simp
  simp only [Act.put, List.setIfInBounds_toArray, List.set_cons_zero, List.set_cons_succ]
  refine E_put (i := 1) 21 (v := Ptr l) rfl rfl (by kernel_rfl) (by kernel_rfl) (by kernel_rfl) (by kernel_rfl) (fun _ _ _ h => h) (Or.inl ⟨by rfl, fun w' hw' => ?_⟩) hS ?_
  · go_simp
  simp only [Act.put, List.setIfInBounds_toArray, List.set_cons_zero, List.set_cons_succ]
  refine E_put (i := 2) 22 (v := Ptr l) rfl rfl (by kernel_rfl) (by kernel_rfl) (by kernel_rfl) (by kernel_rfl) (fun _ _ _ h => h) (Or.inl ⟨by rfl, fun w' hw' => ?_⟩) hS ?_
  · go_simp
  simp only [Act.put, List.setIfInBounds_toArray, List.set_cons_zero, List.set_cons_succ]
  refine E_put (i := 3) 23 (v := .pointer (some ⟨l, 0, none⟩)) rfl rfl (by kernel_rfl) (by kernel_rfl) (by kernel_rfl) (by kernel_rfl) (fun _ _ _ h => h) (Or.inl ⟨by rfl, fun w' hw' => ?_⟩) hS ?_
  · go_simp
  simp only [Act.put, List.setIfInBounds_toArray, List.set_cons_zero, List.set_cons_succ]
  refine E_put (i := 4) 24 (v := Ptr p) rfl rfl (by kernel_rfl) (by kernel_rfl) (by kernel_rfl) (by kernel_rfl) (fun _ _ _ h => h) (Or.inl ⟨by rfl, fun w' hw' => ?_⟩) hS ?_
  · have c : w'.cell? ⟨l, 0, none⟩ = some (Ptr p) := cellOf (hw') 0; go_simp
  simp only [Act.put, List.setIfInBounds_toArray, List.set_cons_zero, List.set_cons_succ]
  refine E_put (i := 5) 25 (v := Ptr l) rfl rfl (by kernel_rfl) (by kernel_rfl) (by kernel_rfl) (by kernel_rfl) (fun _ _ _ h => h) (Or.inl ⟨by rfl, fun w' hw' => ?_⟩) hS ?_
  · go_simp
  simp only [Act.put, List.setIfInBounds_toArray, List.set_cons_zero, List.set_cons_succ]
  refine E_put (i := 6) 26 (v := Ptr l) rfl rfl (by kernel_rfl) (by kernel_rfl) (by kernel_rfl) (by kernel_rfl) (fun _ _ _ h => h) (Or.inl ⟨by rfl, fun w' hw' => ?_⟩) hS ?_
  · go_simp
  simp only [Act.put, List.setIfInBounds_toArray, List.set_cons_zero, List.set_cons_succ]
  refine E_put (i := 7) 27 (v := .pointer (some ⟨l, 1, none⟩)) rfl rfl (by kernel_rfl) (by kernel_rfl) (by kernel_rfl) (by kernel_rfl) (fun _ _ _ h => h) (Or.inl ⟨by rfl, fun w' hw' => ?_⟩) hS ?_
  · go_simp
  simp only [Act.put, List.setIfInBounds_toArray, List.set_cons_zero, List.set_cons_succ]
  refine E_put (i := 8) 28 (v := .int .i64 fr) rfl rfl (by kernel_rfl) (by kernel_rfl) (by kernel_rfl) (by kernel_rfl) (fun _ _ _ h => h) (Or.inl ⟨by rfl, fun w' hw' => ?_⟩) hS ?_
  · have c : w'.cell? ⟨l, 1, none⟩ = some (.int .i64 fr) := cellOf (hw') 1; go_simp
  simp only [Act.put, List.setIfInBounds_toArray, List.set_cons_zero, List.set_cons_succ]
  refine E_put (i := 9) 29 (v := Ptr l) rfl rfl (by kernel_rfl) (by kernel_rfl) (by kernel_rfl) (by kernel_rfl) (fun _ _ _ h => h) (Or.inl ⟨by rfl, fun w' hw' => ?_⟩) hS ?_
  · go_simp
  simp only [Act.put, List.setIfInBounds_toArray, List.set_cons_zero, List.set_cons_succ]
  refine E_put (i := 10) 30 (v := Ptr l) rfl rfl (by kernel_rfl) (by kernel_rfl) (by kernel_rfl) (by kernel_rfl) (fun _ _ _ h => h) (Or.inl ⟨by rfl, fun w' hw' => ?_⟩) hS ?_
  · go_simp
  simp only [Act.put, List.setIfInBounds_toArray, List.set_cons_zero, List.set_cons_succ]
  refine E_put (i := 11) 31 (v := .pointer (some ⟨l, 2, none⟩)) rfl rfl (by kernel_rfl) (by kernel_rfl) (by kernel_rfl) (by kernel_rfl) (fun _ _ _ h => h) (Or.inl ⟨by rfl, fun w' hw' => ?_⟩) hS ?_
  · go_simp
  simp only [Act.put, List.setIfInBounds_toArray, List.set_cons_zero, List.set_cons_succ]
  refine E_put (i := 12) 32 (v := .int .i64 ct) rfl rfl (by kernel_rfl) (by kernel_rfl) (by kernel_rfl) (by kernel_rfl) (fun _ _ _ h => h) (Or.inl ⟨by rfl, fun w' hw' => ?_⟩) hS ?_
  · have c : w'.cell? ⟨l, 2, none⟩ = some (.int .i64 ct) := cellOf (hw') 2; go_simp
  simp only [Act.put, List.setIfInBounds_toArray, List.set_cons_zero, List.set_cons_succ]
  refine E_put (i := 13) 33 (v := .int .i64 e) rfl rfl (by kernel_rfl) (by kernel_rfl) (by kernel_rfl) (by kernel_rfl) (fun _ _ _ h => h) (Or.inl ⟨by rfl, fun w' hw' => ?_⟩) hS ?_
  · go_simp
  simp only [Act.put, List.setIfInBounds_toArray, List.set_cons_zero, List.set_cons_succ]
  refine E_put (i := 14) 34 (v := .agg #[Ptr p, .int .i64 fr, .int .i64 ct, .int .i64 e, .bool false, .slice none 0 0, .int .i64 0, .int .i64 0, .slice none 0 0]) rfl rfl (by kernel_rfl) (by kernel_rfl) (by kernel_rfl) (by kernel_rfl) (fun _ _ _ h => h) (Or.inl ⟨by rfl, fun w' hw' => ?_⟩) hS ?_
  · have hbl := HBL.out; go_simp
  simp only [Act.put, List.setIfInBounds_toArray, List.set_cons_zero, List.set_cons_succ]
  refine E_put (i := 15) 35 (v := Ptr l) rfl rfl (by kernel_rfl) (by kernel_rfl) (by kernel_rfl) (by kernel_rfl) (fun _ _ _ h => h) (Or.inl ⟨by rfl, fun w' hw' => ?_⟩) hS ?_
  · go_simp
  simp only [Act.put, List.setIfInBounds_toArray, List.set_cons_zero, List.set_cons_succ]
  refine E_do (i := 16) none (by kernel_rfl) rfl rfl rfl (fun K hK => ?_)
  refine wp_store_row (.tmp 35) (.tmp 34) 83 rfl l _ _ 83 rfl rfl HB.out infoLog rfl (by kernel_rfl) ?_
  refine hK (undef) _ (fun h => absurd rfl h) ?_
  clear hK K
  simp only [Act.put]
  refine E_done (by kernel_rfl) ?_ _
  go_wp2
  go_ret
  exact ⟨rfl, setRow_heap w l _ _ 83 _ HB.out, (Touch.setRow (T := fun k => k = l) (Touch.refl _ w).drew (fun _ => rfl) _)⟩
end Go.Proofs.YtllkplanjfnnmaaGreatDoor
