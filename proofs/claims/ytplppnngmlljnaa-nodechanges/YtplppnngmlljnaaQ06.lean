/- Texts put together: PMem, PIdx. -/
import Derived.Test.YtplppnngmlljnaaQ04
import Derived.Test.YtplppnngmlljnaaQ05
import Derived.Test.YtplppnngmlljnaaQ01
import Derived.Maps.AppendAt
import Derived.BigQuiet
import Derived.Deep.Cut
/- Where bytes lie, lists of them; new lists; a sector; slices. -/
namespace Go.Proofs.Ytplppnngmlljnaa
open Go.RowKit

/-- What a call tells that changes nothing. -/
def Tells (v : Value) (w : World) (e : Ending) (w' : World) : Prop := e = .returned v ∧ w' = w
/-- A pointer to block p. -/
abbrev Ptr (p : Nat) : Value := .pointer (some ⟨p, 0, none⟩)
/-- An answer; nothing that was there has turned. -/
def Adding (v : Value) (w : World) (e : Ending) (w' : World) : Prop := e = .returned v ∧ Adds w w'
/-- A sector in block g. -/
structure Sec (w : World) (g : Nat) (cs : List UInt8) : Prop where
  len : cs.length = 256
  box : w.heap[g]? = some (.cells (S cs).toArray 121 (0, 0))
set_option maxRecDepth 100000 in
theorem Sec.cell {w : World} {g : Nat} {cs : List UInt8} (h : Sec w g cs) {j : Nat} {c : UInt8} (hj : cs[j]? = some c) : w.cell? ⟨g, j, none⟩ = some (.int .u8 (c.toNat : Int)) := by
  rw [cellOf h.box j, List.getElem?_toArray, S_get, hj]; rfl
theorem Sec.frozen {w : World} {g : Nat} {cs : List UInt8} (h : Sec w g cs) (j : Nat) : w.frozen? ⟨g, j, none⟩ = false := frozen_of_row w g j _ 121 h.box
theorem Sec.at {w : World} {g : Nat} {cs : List UInt8} (h : Sec w g cs) : At w (some ⟨g, 0, none⟩) cs :=
  fun j c hj => ⟨g, 0, rfl, by rw [Nat.zero_add]; exact h.cell hj⟩
set_option maxRecDepth 100000 in
theorem Sec.part {w : World} {g : Nat} {cs : List UInt8} (h : Sec w g cs) (o n : Nat) : At w (some ⟨g, o, none⟩) ((cs.drop o).take n) := by
  have := (h.at.suf o).pre n
  rwa [Nat.zero_add] at this
theorem Sec.pre {w : World} {g : Nat} {cs : List UInt8} (h : Sec w g cs) (n : Nat) : At w (some ⟨g, 0, none⟩) (cs.take n) := h.at.pre n
theorem Sec.lt {w : World} {g : Nat} {cs : List UInt8} (h : Sec w g cs) : g < w.heap.size := lt_of_heap h.box
theorem Sec.adds {w w' : World} {g : Nat} {cs : List UInt8} (h : Sec w g cs) (hA : Adds w w') : Sec w' g cs := ⟨h.len, by rw [hA.block g h.lt id]; exact h.box⟩
theorem Sec.set {w : World} {g : Nat} {cs : List UInt8} (h : Sec w g cs) (j : Nat) (c : UInt8) : Sec (w.setCell ⟨g, j, none⟩ (.int .u8 (c.toNat : Int))) g (cs.set j c) :=
  ⟨by rw [List.length_set]; exact h.len, by rw [heap_setCell_same w g j _ 121 _ h.box, S_set]⟩
set_option maxRecDepth 100000 in
theorem u43 : Try.prog.underlying 121 = some (.array (Try.prog.arrayLen 121) (Try.prog.elem 121)) := by kernel_rfl
set_option maxRecDepth 100000 in
theorem l43 : Try.prog.arrayLen 121 = 256 := by kernel_rfl
set_option maxRecDepth 100000 in
theorem e43 : Try.prog.elem 121 = 5 := by kernel_rfl
set_option maxRecDepth 100000 in
theorem sz5 (w : World) : (sizeOf 5).run Try.prog w = .ok 1 w := by kernel_rfl
set_option maxRecDepth 100000 in
theorem slice43a (g : Nat) (w : World) : (Instr.sliceAt 121 (.pointer (some ⟨g, 0, none⟩)) none none none).run Try.prog w = .ok (.slice (some ⟨g, 0, none⟩) 256 256) w := by
  rw [run_sliceAt_array_all (P := Try.prog) w 121 ⟨g, 0, none⟩ u43, e43, sz5, l43]
  rfl
/-- Cells from an address on, in blocks of Q. -/
def CQ (w : World) (Q : Nat → Prop) (a : Option Addr) (xs : List Value) : Prop := ∀ (j : Nat) (u : Value), xs[j]? = some u → ∃ b o, a = some ⟨b, o, none⟩ ∧ Q b ∧ w.cell? ⟨b, o + j, none⟩ = some u
set_option maxRecDepth 100000 in
theorem CQ.nil (w : World) (Q : Nat → Prop) (a : Option Addr) : CQ w Q a [] := by intro j u h; simp at h
set_option maxRecDepth 100000 in
theorem CQ.touch {w w' : World} {T Q : Nat → Prop} {a : Option Addr} {xs : List Value} (h : CQ w Q a xs) (ht : Touch T w w') (hn : ∀ k, Q k → ¬ T k) : CQ w' Q a xs := by
  intro j u hj
  obtain ⟨b, o, e, hq, hc⟩ := h j u hj
  exact ⟨b, o, e, hq, by rw [World.cell?_of_block (w := w) (ht.block b (World.block_lt_of_cell? w _ hc) (hn b hq))]; exact hc⟩
theorem CQ.adds {w w' : World} {Q : Nat → Prop} {a : Option Addr} {xs : List Value} (h : CQ w Q a xs) (ht : Adds w w') : CQ w' Q a xs := h.touch ht (fun _ _ => id)
set_option maxRecDepth 100000 in
theorem CQ.mono {w : World} {Q Q' : Nat → Prop} {a : Option Addr} {xs : List Value} (h : CQ w Q a xs) (hq : ∀ k, k < w.heap.size → Q k → Q' k) : CQ w Q' a xs := by
  intro j u hj
  obtain ⟨b, o, e, h1, hc⟩ := h j u hj
  exact ⟨b, o, e, hq b (World.block_lt_of_cell? w _ hc) h1, hc⟩
set_option maxRecDepth 100000 in
theorem CQ.at {w : World} {Q : Nat → Prop} {a : Option Addr} {bs : List UInt8} (h : CQ w Q a (S bs)) : At w a bs := by
  intro j c hj
  obtain ⟨b, o, e, _, hc⟩ := h j (B8 c) (by rw [S_get, hj]; rfl)
  exact ⟨b, o, e, hc⟩
set_option maxRecDepth 100000 in
theorem At.cq {w : World} {Q : Nat → Prop} {a : Option Addr} {bs : List UInt8} (h : At w a bs) (hq : ∀ b o, a = some ⟨b, o, none⟩ → Q b) : CQ w Q a (S bs) := by
  intro j u hj
  rw [S_get] at hj
  obtain ⟨c, hc, rfl⟩ := Option.map_eq_some_iff.1 hj
  obtain ⟨b, o, e, h1⟩ := h j c hc
  exact ⟨b, o, e, hq b o e, h1⟩
set_option maxRecDepth 100000 in
/-- A row's cells. -/
theorem own_cq {w : World} {base : Nat} {e : TypeId} {v : Value} {n : Nat} {xs : List Value} (h : w.ownsRow base e 1 v n xs) : ∃ a cap, v = .slice a n cap ∧ n ≤ cap ∧ (a = none → cap = 0) ∧ CQ w (fun k => v.ownBlock = some k) a xs := by
  rcases h.2 with ⟨rfl, rfl⟩ | ⟨g, cap, cur, rfl, hb, hg, hc, h2, h3, h4⟩
  · obtain rfl : xs = [] := List.eq_nil_of_length_eq_zero (by have := h.1; omega)
    exact ⟨none, 0, rfl, Nat.le_refl _, fun _ => rfl, CQ.nil _ _ _⟩
  · refine ⟨_, cap, rfl, hc, fun e => (by cases e), fun j u hj => ⟨g, 0, rfl, rfl, ?_⟩⟩
    rw [cellOf hg, Nat.zero_add]
    rw [← h4, List.getElem?_take] at hj
    split at hj
    · simpa using hj
    · cases hj
/-- A slice of bytes as a value. -/
abbrev PV (x : Part) : Value := .slice x.a x.bs.length x.cap
structure PQ (w : World) (Q : Nat → Prop) (x : Part) : Prop where
  at_ : CQ w Q x.a (S x.bs)
  non : x.a = none → x.cap = 0
theorem PQ.touch {w w' : World} {T Q : Nat → Prop} {x : Part} (h : PQ w Q x) (ht : Touch T w w') (hn : ∀ k, Q k → ¬ T k) : PQ w' Q x := ⟨h.at_.touch ht hn, h.non⟩
theorem PQ.adds {w w' : World} {Q : Nat → Prop} {x : Part} (h : PQ w Q x) (ht : Adds w w') : PQ w' Q x := ⟨h.at_.adds ht, h.non⟩
theorem PQ.mono {w : World} {Q Q' : Nat → Prop} {x : Part} (h : PQ w Q x) (hq : ∀ k, k < w.heap.size → Q k → Q' k) : PQ w Q' x := ⟨h.at_.mono hq, h.non⟩
/-- A list of slices of bytes. -/
structure Pl where
  a : Option Addr
  cap : Nat
  l : List Part
def Pl.bs (g : Pl) : List (List UInt8) := g.l.map (·.bs)
structure GQ (w : World) (Q : Nat → Prop) (g : Pl) : Prop where
  at_ : CQ w Q g.a (g.l.map PV)
  non : g.a = none → g.cap = 0
  all : ∀ x ∈ g.l, PQ w Q x
theorem GQ.touch {w w' : World} {T Q : Nat → Prop} {g : Pl} (h : GQ w Q g) (ht : Touch T w w') (hn : ∀ k, Q k → ¬ T k) : GQ w' Q g := ⟨h.at_.touch ht hn, h.non, fun x hx => (h.all x hx).touch ht hn⟩
theorem GQ.adds {w w' : World} {Q : Nat → Prop} {g : Pl} (h : GQ w Q g) (ht : Adds w w') : GQ w' Q g := h.touch ht (fun _ _ => id)
theorem GQ.mono {w : World} {Q Q' : Nat → Prop} {g : Pl} (h : GQ w Q g) (hq : ∀ k, k < w.heap.size → Q k → Q' k) : GQ w Q' g := ⟨h.at_.mono hq, h.non, fun x hx => (h.all x hx).mono hq⟩
set_option maxRecDepth 100000 in
theorem infoB : ∃ i, Try.prog.info? 30 = some i ∧ i.zero = some (.slice none 0 0) ∧ i.size = 1 ∧ i.bytes = 24 := by
  have h : (Try.prog.info? 30).map (fun i => (i.zero, i.size, i.bytes)) = some (some (.slice none 0 0), 1, 24) := by kernel_rfl
  cases hq : Try.prog.info? 30 with
  | none => rw [hq] at h; cases h
  | some i =>
    rw [hq] at h
    simp only [Option.map_some, Option.some.injEq, Prod.mk.injEq] at h
    exact ⟨i, rfl, h.1, h.2.1, h.2.2⟩
/-- A row that has grown: it is where it was, or new. -/
def Grew (w w' : World) (e : TypeId) (v v' : Value) (n : Nat) (xs : List Value) : Prop := w'.ownsRow 0 e 1 v' n xs ∧ w.grownBy w' v.ownBlock ∧ (v'.ownBlock = v.ownBlock ∨ v'.ownBlock = some w.heap.size)
set_option maxRecDepth 100000 in
theorem append_b1 {w : World} {ops : Array Oper} {rest : List Oper} {o : Oper} {act : Act} {Q : Exit → Act → World → Prop} (hgd : o.guard = none) (s x : Operand)
    (ho : o.op = .call { callee := .builtin .append, args := #[s, x], argTypes := #[23, 23] }) (v : Value) (n : Nat) (xs : List Value) (hs : act.eval s = v) (hown : w.ownsRow 0 30 1 v n xs)
    (g : Nat) (u : Value) (hx : act.eval x = .slice (some ⟨g, 0, none⟩) 1 1) (hc : w.cell? ⟨g, 0, none⟩ = some u) (hu : u.oneCell' = true) (hlen : n ≤ 10000000)
    (h : ∀ v' w', Grew w w' 30 v v' (n + 1) (xs ++ [u]) → wpList Try.prog ops Q rest (act.put o.dst v') w') : wpList Try.prog ops Q (o :: rest) act w := by
  obtain ⟨i0, hi, hz0, hz1, hz2⟩ := infoB
  refine wpList_append_own_at _ hgd s x 23 ho 0 30 i0 (.slice none 0 0) 1 24 Try.underlying23 hi hz0 hz1 hz2 rfl (by decide) v n xs hs hown ⟨g, 0, none⟩ 1 1 [u] hx rfl ?_ (fun y hy => by rw [List.mem_singleton.1 hy]; exact hu) (by unfold maxLen; omega) (by omega) (Nat.zero_le _) (fun v' w' h1 h2 _ h4 => h v' w' ⟨h1, h2, h4⟩)
  intro j y hj
  match j, hj with
  | 0, hj =>
    obtain rfl : u = y := by simpa using hj
    rw [Addr.add_mid]; exact hc
/-- What a row's growing touches. -/
theorem Grew.touch {w w' : World} {e : TypeId} {v v' : Value} {n : Nat} {xs : List Value} (h : Grew w w' e v v' n xs) : Touch (fun k => v.ownBlock = some k) w w' := ⟨h.2.1.os, h.2.1.tape, h.2.1.output, h.2.1.size, fun k hk hn => h.2.1.block k hk (fun c => hn c.symm)⟩
set_option maxRecDepth 100000 in
theorem Grew.lt {w w' : World} {e : TypeId} {v v' : Value} {n : Nat} {xs : List Value} (h : Grew w w' e v v' n xs) {B : Nat} (hB : B ≤ w.heap.size) (hv : ∀ k, v.ownBlock = some k → B ≤ k) : ∀ k, v'.ownBlock = some k → B ≤ k := by
  intro k hk
  rcases h.2.2 with c | c
  · exact hv k (by rw [← c]; exact hk)
  · rw [c] at hk; cases hk; exact hB
set_option maxRecDepth 100000 in
theorem row_type {w : World} {B : Nat} {e : TypeId} {v : Value} {n : Nat} {xs : List Value} (h : w.ownsRow B e 1 v n xs) {k : Nat} (hk : v.ownBlock = some k) : ∃ cur, w.heap[k]? = some (.cells cur e (0, 0)) := by
  rcases h.2 with ⟨rfl, _⟩ | ⟨g, cap, cur, rfl, hb', hgg, rest⟩
  · cases hk
  · obtain rfl : g = k := by simpa [Value.ownBlock] using hk
    exact ⟨cur, hgg⟩
set_option maxRecDepth 100000 in
theorem row_touch {w w' : World} {T : Nat → Prop} {B : Nat} {e : TypeId} {v : Value} {n : Nat} {xs : List Value} (h : w.ownsRow B e 1 v n xs) (ht : Touch T w w') (hn : ∀ k, v.ownBlock = some k → ¬ T k) : w'.ownsRow B e 1 v n xs := by
  refine ⟨h.1, ?_⟩
  rcases h.2 with hh | ⟨g, cap, cur, rfl, hb', hgg, rest⟩
  · exact .inl hh
  · refine .inr ⟨g, cap, cur, rfl, hb', ?_, rest⟩
    rw [ht.block g (Array.getElem?_eq_some_iff.1 hgg).1 (hn g rfl)]; exact hgg
set_option maxRecDepth 100000 in
theorem row_low {w : World} {B : Nat} {e : TypeId} {v : Value} {n : Nat} {xs : List Value} (h : w.ownsRow B e 1 v n xs) {k : Nat} (hk : v.ownBlock = some k) : B ≤ k ∧ k < w.heap.size := by
  rcases h.2 with ⟨rfl, _⟩ | ⟨g, cap, cur, rfl, hb', hgg, rest⟩
  · cases hk
  · obtain rfl : g = k := by simpa [Value.ownBlock] using hk
    exact ⟨hb', (Array.getElem?_eq_some_iff.1 hgg).1⟩
set_option maxRecDepth 100000 in
theorem Touch.at' {T : Nat → Prop} {w w' : World} (h : Touch T w w') {k : Nat} {o : Obj} (hk : w.heap[k]? = some o) (hn : ¬ T k) : w'.heap[k]? = some o := by
  rw [h.block k (Array.getElem?_eq_some_iff.1 hk).1 hn]; exact hk
set_option maxRecDepth 100000 in
/-- A whole struct is stored. -/
theorem wp_store_row {P : Program} {o : Oper} {a : Act} {w : World} {K : Act → World → Prop} {Q : Exit → Act → World → Prop} (x y : Operand) (t : TypeId) (ho : o.op = .store t x y) (g : Nat) (cells old : Array Value) (u : TypeId)
    (hx : a.eval x = .pointer (some ⟨g, 0, none⟩)) (hy : a.eval y = .agg cells) (hg : w.heap[g]? = some (.cells old u (0, 0))) (hi : (P.info? t).map (·.size) = some cells.size) (hs : old.size = cells.size) (h1 : cells.all (·.oneCell') = true)
    (h : K (a.put o.dst undef) (w.setRow g cells)) : o.wp P a w K Q := by
  have hst := run_storeVar_row (P := P) w g u t old cells hg hi hs h1
  unfold Oper.wp execOp
  rw [ho]
  simp only [hx, hy, Instr.storeAt, Instr.sureAddr, Sem.run_bind, Sem.run_pure, Result.andThen_ok, hst]
  exact h
set_option maxRecDepth 100000 in
/-- What lies above a reader may turn. -/
theorem RD.above {w w' : World} {T : Nat → Prop} {p : Nat} {s : M.St} (h : RD w (Ptr p) s) (hT : Touch T w w') (hp : ∀ k, T k → p < k) : RD w' (Ptr p) s := by
  rcases h with ⟨e, _⟩ | ⟨q, e, hb, hs⟩ | ⟨q, e, hR⟩
  · cases e
  · obtain rfl : p = q := by simpa using e
    exact .inr (.inl ⟨p, rfl, hT.at' hb (fun c => by have := hp p c; omega), hs⟩)
  · obtain rfl : p = q := by simpa using e
    obtain ⟨a, cap, hb, hL⟩ := hR.box
    refine .inr (.inr ⟨p, rfl, ⟨⟨a, cap, hT.at' hb (fun c => by have := hp p c; omega), ⟨hL.at_.block (fun b o e hb => hT.block b hb (fun c => by have h1 : b < p := (hL.low _ e).2; have := hp b c; omega)), hL.room, hL.non, hL.low⟩⟩, hR.good, hR.len, hR.err⟩⟩)
/-- A list of slices in new memory. -/
structure Fresh (B : Nat) (w : World) (v : Value) (hs : List Part) : Prop where
  rows : w.ownsRow 0 30 1 v hs.length (hs.map PV)
  own : ∀ k, v.ownBlock = some k → B ≤ k
  data : ∀ x ∈ hs, PQ w (fun k => B ≤ k ∧ v.ownBlock ≠ some k) x
theorem Fresh.touch {B : Nat} {w w' : World} {T : Nat → Prop} {v : Value} {hs : List Part} (h : Fresh B w v hs) (hT : Touch T w w') (hn : ∀ k, B ≤ k → ¬ T k) : Fresh B w' v hs :=
  ⟨row_touch h.rows hT (fun k hk => hn k (h.own k hk)), h.own, fun x hx => (h.data x hx).touch hT (fun k q => hn k q.1)⟩
theorem Fresh.low {B C : Nat} {w : World} {v : Value} {hs : List Part} (h : Fresh B w v hs) (hB : C ≤ B) : Fresh C w v hs :=
  ⟨h.rows, fun k hk => Nat.le_trans hB (h.own k hk), fun x hx => (h.data x hx).mono (fun _ _ q => ⟨Nat.le_trans hB q.1, q.2⟩)⟩
theorem Fresh.nil (B : Nat) (w : World) : Fresh B w (.slice none 0 0) [] := ⟨World.ownsRow_nil _ _ _ _, fun _ hk => (by cases hk), fun _ hx => (by cases hx)⟩
set_option maxRecDepth 100000 in
/-- One more. -/
theorem Fresh.more {B : Nat} {w w1 w2 : World} {v v' : Value} {hs : List Part} {x : Part} (h : Fresh B w v hs) (hA : Adds w w1) (hG : Grew w1 w2 30 v v' (hs.length + 1) (hs.map PV ++ [PV x])) (hB : B ≤ w.heap.size) (hx : PQ w1 (fun k => B ≤ k ∧ v.ownBlock ≠ some k) x) : Fresh B w2 v' (hs ++ [x]) := by
  have hw := hA.size
  have hlt : ∀ k, k < w1.heap.size → v.ownBlock ≠ some k → v'.ownBlock ≠ some k := fun k hk hn c => by
    rcases hG.2.2 with e | e
    · exact hn (by rw [← e]; exact c)
    · rw [e] at c; cases c; omega
  refine ⟨by rw [List.length_append, List.map_append]; exact hG.1, hG.lt (by omega) h.own, fun y hy => ?_⟩
  rcases List.mem_append.1 hy with hy | hy
  · have q := ((h.data y hy).adds hA).mono (Q' := fun k => B ≤ k ∧ v.ownBlock ≠ some k ∧ v'.ownBlock ≠ some k) (fun k hk q => ⟨q.1, q.2, hlt k hk q.2⟩)
    exact (q.touch hG.touch (fun k q => q.2.1)).mono (fun k _ q => ⟨q.1, q.2.2⟩)
  · obtain rfl := List.mem_singleton.1 hy
    have q := hx.mono (Q' := fun k => B ≤ k ∧ v.ownBlock ≠ some k ∧ v'.ownBlock ≠ some k) (fun k hk q => ⟨q.1, q.2, hlt k hk q.2⟩)
    exact (q.touch hG.touch (fun k q => q.2.1)).mono (fun k _ q => ⟨q.1, q.2.2⟩)
set_option maxRecDepth 100000 in
/-- A cell that was there holds what it held. -/
theorem below_adds {w1 w2 : World} (h2 : Adds w1 w2) {a : Addr} {v : Value} (h : w1.cell? a = some v) : w2.cell? a = some v := by
  rw [World.cell?_of_block (w := w1) (h2.block a.block (World.block_lt_of_cell? w1 _ h) id)]; exact h
/-- Where the bytes behind a cut lie. -/
def sufAt (a : Option Addr) (cap n : Nat) : Option Addr := if cap = n then a else a.map (·.add n)
set_option maxRecDepth 100000 in
theorem At.sufAt {w : World} {a : Option Addr} {bs : List UInt8} (h : At w a bs) (cap n : Nat) (hc : bs.length ≤ cap) : At w (sufAt a cap n) (bs.drop n) := by
  unfold Go.Proofs.Ytplppnngmlljnaa.sufAt
  by_cases hn : cap = n
  · rw [List.drop_eq_nil_of_le (by omega)]; exact At.nil _ _
  · rw [if_neg hn]
    intro j c hj
    rw [List.getElem?_drop] at hj
    obtain ⟨b, o, rfl, hcell⟩ := h _ c hj
    exact ⟨b, o + n, by simp [Addr.add_mid], by rw [Nat.add_assoc]; exact hcell⟩
set_option maxRecDepth 100000 in
theorem run_pre (a : Option Addr) (len cap n : Nat) (hn : n ≤ cap) (w : World) : (Instr.sliceAt 30 (.slice a len cap) none (some (.int .i64 (n : Int))) none).run Try.prog w = .ok (.slice a n cap) w := by
  have hsz : (sizeOf 5).run Try.prog w = .ok 1 w := by kernel_rfl
  rw [run_sliceAt_slice w 30 _ _ _ _ Try.underlying30, run_slice_h w 30 a len cap Try.underlying30 .i64 n (by omega) (by omega)]
  have he : Try.prog.elem 30 = 5 := by kernel_rfl
  rw [he, hsz]
  simp only [Result.andThen, sliced, Int.toNat_natCast, Nat.zero_mul, Nat.sub_zero]
  congr 2
  split
  · rfl
  · cases a <;> rfl
set_option maxRecDepth 100000 in
theorem run_suf (a : Option Addr) (len cap n : Nat) (hn : n ≤ len) (w : World) : (Instr.sliceAt 30 (.slice a len cap) (some (.int .i64 (n : Int))) none none).run Try.prog w = .ok (.slice (sufAt a cap n) (len - n) (cap - n)) w := by
  have hsz : (sizeOf 5).run Try.prog w = .ok 1 w := by kernel_rfl
  rw [run_sliceAt_slice w 30 _ _ _ _ Try.underlying30, run_slice_l w 30 a len cap Try.underlying30 .i64 n (by omega) (by omega)]
  have he : Try.prog.elem 30 = 5 := by kernel_rfl
  rw [he, hsz]
  simp only [Result.andThen, sliced, Int.toNat_natCast, Nat.mul_one]
  rfl
theorem adds_drewN (w : World) (n : Nat) : Adds w (w.drewN n) := ⟨rfl, rfl, rfl, Nat.le_refl _, fun _ _ _ => rfl⟩
set_option maxRecDepth 100000 in
theorem info5 : (Try.prog.info? 5).map (·.size) = some 1 := by kernel_rfl
/-- A sector of bytes 0, as cells. -/
def Z256 : Array Value := (S (List.replicate 256 0)).toArray
set_option maxRecDepth 100000 in
theorem zero43 (w : World) : (zeroValue 121).run Try.prog w = .ok (.agg Z256) w := by kernel_rfl
theorem Sec.new (w : World) : Sec (w.alloc (.cells Z256 121)) w.heap.size (List.replicate 256 0) := ⟨by rw [List.length_replicate], heap_alloc_new w _⟩
theorem Adds.one {w0 w w' : World} {g : Nat} (h : Adds w0 w) (hT : Touch (fun k => k = g) w w') (hg : w0.heap.size ≤ g) : Adds w0 w' := h.then hT (fun i hi e => by subst e; exact absurd hi (Nat.not_lt.2 hg))
set_option maxRecDepth 100000 in
theorem copy_run (w : World) (ty : TypeId) (g off n cap : Nat) (a : Option Addr) (xs : List UInt8) (cx : Nat) (cs : List UInt8) (hS : Sec w g cs) (hA : At w a xs) (hc : a = none → cx = 0) (hx : xs.length ≤ n) (hfit : off + xs.length ≤ 256) :
    ∃ w', (Builtin.copy_ #[30, 30] ty #[.slice (some ⟨g, off, none⟩) n cap, .slice a xs.length cx]).run Try.prog w = .ok (.int .i64 (xs.length : Int)) w' ∧ Sec w' g (cs.take off ++ xs ++ cs.drop (off + xs.length)) ∧ Touch (fun k => k = g) w w' := by
  cases a with
  | none =>
    obtain rfl := hc rfl
    obtain rfl : xs = [] := by
      cases xs with
      | nil => rfl
      | cons c xs => obtain ⟨b, o', e, _⟩ := hA 0 c rfl; cases e
    refine ⟨w, run_copy_nil Try.prog w 30 30 ty 5 ⟨g, off, none⟩ n cap Try.underlying30 (by rw [info5]; rfl), ?_, Touch.refl _ _⟩
    rw [List.append_nil, List.length_nil, Nat.add_zero, List.take_append_drop]
    exact hS
  | some ad =>
    have hrun := run_copy_row Try.prog w 30 30 ty 5 g off n cap ad xs.length cx (S cs).toArray 121 (S xs) Try.underlying30 info5 hS.box (by rw [length_S]; exact (Nat.min_eq_left hx).symm) (fun j v hv => by
      rw [S_get] at hv
      cases hj : xs[j]? with
      | none => rw [hj] at hv; cases hv
      | some c =>
        rw [hj] at hv
        obtain ⟨b, o', e, hcc⟩ := hA j c hj
        obtain rfl : ad = ⟨b, o', none⟩ := by simpa using e
        rw [Addr.add_mid, hcc]
        exact hv) (by rw [length_S, List.size_toArray, length_S, hS.len]; exact hfit) (one_S xs)
    refine ⟨_, hrun.trans (by rw [length_S]; rfl), ⟨?_, ?_⟩, Touch.setRow (T := fun k => k = g) (Touch.refl _ w) (fun _ => rfl) _⟩
    · simp only [List.length_append, List.length_take, List.length_drop, hS.len]; omega
    · rw [setRow_heap w g _ _ 121 _ hS.box]
      congr 2
      simp only [S, List.map_append, List.map_take, List.map_drop]
set_option maxRecDepth 100000 in
theorem copy_sec {w : World} {ops : Array Oper} {rest : List Oper} {o : Oper} {act : Act} {Q : Exit → Act → World → Prop} (hgd : o.guard = none) (d s : Operand)
    (ho : o.op = .call { callee := .builtin .copy, args := #[d, s], argTypes := #[30, 30] }) (g off n cap : Nat) (hd : act.eval d = .slice (some ⟨g, off, none⟩) n cap) (a : Option Addr) (xs : List UInt8) (cx m : Nat) (hm : xs.length = m) (hs : act.eval s = .slice a m cx)
    (cs ds : List UInt8) (hds : cs.take off ++ xs ++ cs.drop (off + xs.length) = ds) (hS : Sec w g cs) (hA : At w a xs) (hc : a = none → cx = 0) (hx : xs.length ≤ n) (hfit : off + xs.length ≤ 256)
    (h : ∀ w', Sec w' g ds → Touch (fun k => k = g) w w' → wpList Try.prog ops Q rest (act.put o.dst (.int .i64 (m : Int))) w') : wpList Try.prog ops Q (o :: rest) act w := by
  subst hm
  subst hds
  obtain ⟨w', hr, hS', hT⟩ := copy_run w o.type g off n cap a xs cx cs hS hA hc hx hfit
  refine wpList_plain hgd fun K hK => ?_
  unfold Oper.wp execOp
  simp only [ho, resolve, invoke, builtin, Sem.run_bind, Sem.run_pure, Result.andThen_ok, List.map_toArray, List.map_cons, List.map_nil, hd, hs, hr]
  exact hK _ _ (h w' hS' hT)
end Go.Proofs.Ytplppnngmlljnaa

/- A place of a byte that is not 0. -/
namespace Go.Proofs.Ytplppnngmlljnaa
open Go.RowKit

set_option maxRecDepth 100000 in
set_option maxHeartbeats 400000 in
theorem not0_any (c : UInt8) (z : Bool) (hz : (c != 0) = z) (w : World) : Calls Try.prog 98 #[.int .u8 (c.toNat : Int)] w (Tells (.bool z) w) := by
  by_cases h : c = 0
  · subst h
    obtain rfl : false = z := hz
    go_enter Try.func98, Try.ntmps98
    go_wp2
    go_ret
    exact ⟨rfl, rfl⟩
  · obtain rfl : true = z := by rw [← hz]; simp [h]
    have hn : ¬ (c.toNat : Int) = 0 := by
      intro e
      exact h (UInt8.toNat_inj.1 (by simpa using (show c.toNat = 0 by omega)))
    go_enter Try.func98, Try.ntmps98
    go_wp2
    go_ret
    refine ⟨?_, rfl⟩
    show Ending.returned (.bool (!decide ((c.toNat : Int) = 0))) = _
    rw [decide_eq_false hn]; rfl
set_option maxRecDepth 100000 in
theorem some0_take {cs : List UInt8} {i : Nat} {c : UInt8} (h : cs[i]? = some c) (hI : M.some0 (cs.take i) = false) (hz : (c != 0) = false) : M.some0 (cs.take (i + 1)) = false := by
  unfold M.some0 at *
  rw [take_next h, List.any_append, hI]
  simp [hz]
set_option maxRecDepth 100000 in
theorem some0_yes {cs : List UInt8} {i : Nat} {c : UInt8} (h : cs[i]? = some c) (hz : (c != 0) = true) : M.some0 cs = true := by
  unfold M.some0
  rw [List.any_eq_true]
  exact ⟨c, List.mem_of_getElem? h, hz⟩
/-- A place, or none. -/
def PIdx (z : Bool) (w : World) (e : Ending) (w' : World) : Prop := ∃ n : Int, e = .returned (.int .i64 n) ∧ decide (0 ≤ n) = z ∧ w' = w
set_option maxRecDepth 100000 in
set_option maxHeartbeats 1000000 in
theorem index_any (a : Option Addr) (cs : List UInt8) (cap : Nat) (w : World) (hA : At w a cs) (hl : cs.length ≤ 1000) : Calls Try.prog 101 #[.slice a cs.length cap, .func (.func 98) #[] #[]] w (PIdx (M.some0 cs) w) := by
  have HA := hid hA
  clear hA
  go_enter Try.func101, Try.ntmps101
  go_wp2_with fail
  go_loopw [8] (fun iv wr => ∃ i : Nat, iv = .int .i64 (i : Int) ∧ i ≤ cs.length ∧ Hid (M.some0 (cs.take i) = false) ∧ wr = w) (fun iv _ => cs.length - (intOf iv).toNat)
  case atStart => exact ⟨0, rfl, Nat.zero_le _, hid (show M.some0 (cs.take 0) = false from rfl), rfl⟩
  case round =>
    obtain ⟨i, rfl, hi, HI, hw⟩ := hrel
    obtain rfl := hw.symm
    by_cases hlt : i < cs.length
    · have hltz : (i : Int) < (cs.length : Int) := by omega
      obtain ⟨c, hc⟩ : ∃ c, cs[i]? = some c := ⟨cs[i], List.getElem?_eq_getElem hlt⟩
      obtain ⟨b, o, ea, c0⟩ := HA.out i c hc
      subst ea
      obtain ⟨z, hz⟩ : ∃ z, (c != 0) = z := ⟨_, rfl⟩
      have HZ := hid (And.intro hz hc)
      have HC := hid (not0_any c z hz w)
      clear hz hc
      cases z with
      | false =>
        go_wp2_with (first | (go_at_call 98; refine HC.out.mono ?_; rintro e _ ⟨rfl, hw⟩; rw [hw]; clear hw))
        go_roundw
        case rel => exact ⟨i + 1, by go_num, by omega, some0_take HZ.out.2 HI.out HZ.out.1, by first | rfl | trivial⟩
        case measure => simp [intOf]; omega
      | true =>
        go_wp2_with (first | (go_at_call 98; refine HC.out.mono ?_; rintro e _ ⟨rfl, hw⟩; rw [hw]; clear hw))
        go_ret
        exact ⟨(i : Int), rfl, by rw [some0_yes HZ.out.2 HZ.out.1]; exact decide_eq_true (Int.natCast_nonneg i), rfl⟩
    · have hltz : ¬ (i : Int) < (cs.length : Int) := by omega
      have HN := hid (show M.some0 cs = false by have := HI.out; rw [List.take_of_length_le (by omega)] at this; exact this)
      go_wp2_with fail
      go_ret
      exact ⟨-1, rfl, by rw [HN.out]; rfl, rfl⟩
set_option maxRecDepth 100000 in
set_option maxHeartbeats 400000 in
theorem contains_any (a : Option Addr) (cs : List UInt8) (cap : Nat) (w : World) (hA : At w a cs) (hl : cs.length ≤ 1000) : Calls Try.prog 97 #[.slice a cs.length cap, .func (.func 98) #[] #[]] w (Tells (.bool (M.some0 cs)) w) := by
  have H := hid (index_any a cs cap w hA hl)
  clear hA
  go_enter Try.func97, Try.ntmps97
  go_wp2_with (first | (go_at_call 101; refine H.out.mono ?_; rintro e _ ⟨n, rfl, hn, hw⟩; rw [hw]; clear hw; have HN := hid hn; clear hn))
  go_ret
  exact ⟨by rw [← HN.out]; rfl, rfl⟩
end Go.Proofs.Ytplppnngmlljnaa
