/- The reference's Parse: its second loop's state. -/
import Derived.Test.YtidkmamjhpckgaaDoorRParse0
namespace Go.Proofs.YtidkmamjhpckgaaDoor
open Go.RowKit

/-- Bytes taken, where they are there. -/
def PTk (wi : World) (p : Nat) (l : List UInt8) (n : Nat) (e : Ending) (w' : World) : Prop := ∃ a cap, e = .returned (.slice a n cap) ∧ Hid (At w' a (l.take n) ∧ (a = none → cap = 0) ∧ IsS w' p ⟨0, l.drop n⟩ ∧ Touch (Own1 (.pointer (some ⟨p, 0, none⟩))) wi w')
theorem rtake_put {p : Nat} {l : List UInt8} {w : World} (n : Nat) (h : IsS w p ⟨0, l⟩) (hn : n ≤ l.length) : Calls Tryd.prog 34 #[.pointer (some ⟨p, 0, none⟩), .int .i64 (n : Int)] w (PTk w p l n) := by
  obtain ⟨a, cap, hb, hL⟩ := h.box
  refine (rtake_ok p a _ cap n w hb hn hL.room).mono ?_
  rintro e w' ⟨rfl, hw⟩
  rw [← List.length_drop] at hw
  obtain ⟨h1, h2⟩ := h.set (e := 0) (l := l.drop n) hw (hL.drop n hn) (fun h => absurd rfl h) (by rw [List.length_drop]; have h3 : l.length ≤ 1000000 := h.len; omega) (by omega)
  refine ⟨a, cap, rfl, (hL.at_.pre n).block (fun b o e hb => ?_), hL.non, h1, h2⟩
  refine h2.block b hb (fun c => ?_)
  have h3 : b < p := (hL.low _ e).2
  simp only [Own1, Value.pointer.injEq, Option.some.injEq, Addr.mk.injEq] at c
  omega
theorem own_is {w : World} {B : Nat} {e : TypeId} {v : Value} {n : Nat} {xs : List Value} (h : w.ownsRow B e 1 v n xs) {q : Nat} {u : Value} (hq : xs[q]? = some u) : ∃ g cap, v = .slice (some ⟨g, 0, none⟩) n cap ∧ w.cell? ⟨g, q, none⟩ = some u := by
  obtain ⟨a, cap, e1, _, _, hc⟩ := own_cq h
  obtain ⟨b, o, e2, hb, hcell⟩ := hc q u hq
  rcases h.2 with ⟨e3, e4⟩ | ⟨g, cap', cur, e3, _⟩
  · have := h.1; rw [e4] at this; rw [List.eq_nil_of_length_eq_zero this] at hq; simp at hq
  · rw [e1] at e3
    cases e3
    cases e2
    exact ⟨_, _, e1, by rw [Nat.zero_add] at hcell; exact hcell⟩
/-- What Parse's second loop has. -/
structure L2 (w wi : World) (B : Nat) (l : List UInt8) (no kd : Int) (v : Value) (ts : List Part) (sv : Value) (N : Nat) (zs : List Value) : Prop where
  ps : Ps w wi B l no kd v
  fr : Fresh (B + 3) wi v ts
  sz : wi.ownsRow 0 3 1 sv N zs
  hi : ∀ j, sv.ownBlock = some j → B + 2 < j
theorem L2.size {w wi : World} {B : Nat} {l : List UInt8} {no kd : Int} {v : Value} {ts : List Part} {sv : Value} {N : Nat} {zs : List Value} (h : L2 w wi B l no kd v ts sv N zs) : B + 3 ≤ wi.heap.size := lt_of_heap h.ps.pg
theorem L2.apart {w wi : World} {B : Nat} {l : List UInt8} {no kd : Int} {v : Value} {ts : List Part} {sv : Value} {N : Nat} {zs : List Value} (h : L2 w wi B l no kd v ts sv N zs) {j : Nat} (h1 : sv.ownBlock = some j) (h2 : v.ownBlock = some j) : False := by
  obtain ⟨c1, e1⟩ := row_type h.sz h1
  obtain ⟨c2, e2⟩ := row_type h.fr.rows h2
  rw [e1] at e2
  simp at e2
theorem own1_eq {p k : Nat} (h : Own1 (.pointer (some ⟨p, 0, none⟩)) k) : k = p := by
  simp only [Own1, Value.pointer.injEq, Option.some.injEq, Addr.mk.injEq] at h; omega
/-- The reader alone has turned. -/
theorem L2.take {w wi w' : World} {B : Nat} {l l' : List UInt8} {no kd : Int} {v : Value} {ts : List Part} {sv : Value} {N : Nat} {zs : List Value} (h : L2 w wi B l no kd v ts sv N zs) (hr : IsS w' (B + 1) ⟨0, l'⟩) (hT : Touch (Own1 (.pointer (some ⟨B + 1, 0, none⟩))) wi w') : L2 w w' B l' no kd v ts sv N zs :=
  ⟨h.ps.reader hr hT, h.fr.touch hT (fun k hk c => by have := own1_eq c; omega), row_touch h.sz hT (fun k hk c => by have := own1_eq c; have := h.hi k hk; omega), h.hi⟩
theorem L2.add {w wi w' : World} {B : Nat} {l : List UInt8} {no kd : Int} {v : Value} {ts : List Part} {sv : Value} {N : Nat} {zs : List Value} (h : L2 w wi B l no kd v ts sv N zs) (hA : Adds wi w') : L2 w w' B l no kd v ts sv N zs :=
  ⟨h.ps.add hA, h.fr.touch hA (fun _ _ => id), row_touch h.sz hA (fun _ _ => id), h.hi⟩
/-- The result's three cells stored beside a list. -/
theorem res_gq {wi : World} {B : Nat} {g : Pl} (h : GQ wi (fun k => B + 3 ≤ k) g) (x y z : Value) : GQ (((wi.setCell ⟨B, 0, none⟩ x).setCell ⟨B, 1, none⟩ y).setCell ⟨B, 2, none⟩ z) (fun _ => True) g := by
  have hT : Touch (fun k => k = B) wi (((wi.setCell ⟨B, 0, none⟩ x).setCell ⟨B, 1, none⟩ y).setCell ⟨B, 2, none⟩ z) := Touch.setCell (T := fun k => k = B) (Touch.setCell (T := fun k => k = B) (Touch.setCell (T := fun k => k = B) (Touch.refl _ wi) (p := ⟨B, 0, none⟩) (fun _ => rfl) x) (p := ⟨B, 1, none⟩) (fun _ => rfl) y) (p := ⟨B, 2, none⟩) (fun _ => rfl) z
  exact (h.touch hT (fun k hk c => by omega)).mono (fun _ _ _ => trivial)
/-- What the round's region reads. -/
def S26 (B : Nat) (no kd : Int) (v : Value) (sg q : Nat) (z : Int) (w' : World) : Prop := w'.heap[B + 2]? = some (.cells #[.int .i64 no, .int .u8 kd, v] 47 (0, 0)) ∧ w'.cell? ⟨sg, q, none⟩ = some (.int .i64 z)
theorem S26.touch {T : Nat → Prop} {B : Nat} {no kd : Int} {v : Value} {sg q : Nat} {z : Int} {w w' : World} (h : S26 B no kd v sg q z w) (hT : Touch T w w') (h1 : ¬ T (B + 2)) (h2 : ¬ T sg) : S26 B no kd v sg q z w' :=
  ⟨hT.at' h.1 h1, by rw [World.cell?_of_block (w := w) (hT.block sg (World.block_lt_of_cell? w _ h.2) h2)]; exact h.2⟩
/-- A cell's bytes taken, beside an empty row. -/
structure M2 (wr wX : World) (B g : Nat) (l : List UInt8) (n : Nat) (xa : Option Addr) (xc : Nat) : Prop where
  rd : IsS wX (B + 1) ⟨0, l.drop n⟩
  T : Touch (Own1 (.pointer (some ⟨B + 1, 0, none⟩))) wr wX
  row : wX.ownsRow g 5 1 (.slice (some ⟨g, 0, none⟩) 0 0) 0 []
  new : wr.heap.size ≤ g
  lt : g ≤ wX.heap.size
  at_ : At wX xa (l.take n)
  non : xa = none → xc = 0
theorem row_lit5 (w : World) : (w.alloc (.cells #[] 5)).ownsRow w.heap.size 5 1 (.slice (some ⟨w.heap.size, 0, none⟩) 0 0) 0 [] := World.ownsRow_lit (base := w.heap.size) (e := 5) (size := 1) w #[] 0 (Nat.le_refl _) (by decide) rfl
theorem M2.a {wr w' : World} {B : Nat} {l : List UInt8} {n : Nat} {xa : Option Addr} {xc : Nat} (hB : B + 3 ≤ wr.heap.size) (h : At w' xa (l.take n) ∧ (xa = none → xc = 0) ∧ IsS w' (B + 1) ⟨0, l.drop n⟩ ∧ Touch (Own1 (.pointer (some ⟨B + 1, 0, none⟩))) (wr.alloc (.cells #[] 5)) w') : M2 wr w' B wr.heap.size l n xa xc :=
  ⟨h.2.2.1, ((Touch.refl _ wr).alloc _).trans h.2.2.2, row_touch (row_lit5 wr) h.2.2.2 (fun k hk c => by have := own1_eq c; simp [Value.ownBlock] at hk; omega), Nat.le_refl _, by have := h.2.2.2.size; simp at this; omega, h.1, h.2.1⟩
theorem M2.b {wr w' : World} {B : Nat} {l : List UInt8} {n : Nat} {xa : Option Addr} {xc : Nat} (h : At w' xa (l.take n) ∧ (xa = none → xc = 0) ∧ IsS w' (B + 1) ⟨0, l.drop n⟩ ∧ Touch (Own1 (.pointer (some ⟨B + 1, 0, none⟩))) wr w') : M2 wr (w'.alloc (.cells #[] 5)) B w'.heap.size l n xa xc :=
  have hA : Adds w' (w'.alloc (.cells #[] 5)) := (Touch.refl _ w').alloc _
  ⟨h.2.2.1.above hA (fun _ c => c.elim), h.2.2.2.trans (hA.mono (fun _ _ c => c.elim)), row_lit5 w', h.2.2.2.size, by simp, h.1.adds hA, h.2.1⟩
/-- The bytes in a row of their own. -/
structure N2 (wr wY : World) (B : Nat) (l : List UInt8) (y : Part) : Prop where
  rd : IsS wY (B + 1) ⟨0, l⟩
  T : Touch (Own1 (.pointer (some ⟨B + 1, 0, none⟩))) wr wY
  pq : PQ wY (fun k => wr.heap.size ≤ k) y
theorem M2.next {wr wX wY : World} {B g : Nat} {l : List UInt8} {n m : Nat} {xa : Option Addr} {xc : Nat} {v1 : Value} (h : M2 wr wX B g l n xa xc) (hB : B + 3 ≤ wr.heap.size) (hm : (l.take n).length = m) (h1 : wY.ownsRow g 5 1 v1 m ([] ++ S (l.take n))) (h2 : wX.grownBy wY (some g)) : ∃ ya yc, v1 = .slice ya m yc ∧ PV ⟨ya, l.take n, yc⟩ = .slice ya m yc ∧ N2 wr wY B (l.drop n) ⟨ya, l.take n, yc⟩ := by
  obtain ⟨ya, yc, e1, _, hn, hq⟩ := own_cq h1
  have hT : Touch (fun k => k = g) wX wY := ⟨h2.os, h2.tape, h2.output, h2.size, fun k hk hne => h2.block k hk (fun c => hne (by cases c; rfl))⟩
  refine ⟨ya, yc, e1, by rw [← hm], h.rd.above hT (fun k c => by have := h.new; omega), ⟨h2.os.trans h.T.os, h2.tape.trans h.T.tape, h2.output.trans h.T.output, Nat.le_trans h.T.size h2.size, fun k hk hne => ?_⟩, ⟨?_, hn⟩⟩
  · rw [← h.T.block k hk hne]
    exact h2.block k (Nat.lt_of_lt_of_le hk h.T.size) (fun c => by cases c; exact absurd hk (Nat.not_lt.2 h.new))
  · have q := hq.mono (Q' := fun k => wr.heap.size ≤ k) (fun k _ c => Nat.le_trans h.new (row_low h1 c).1)
    simpa using q
/-- One more cell. -/
theorem L2.more {w wr wY wZ w5 : World} {B : Nat} {l l' : List UInt8} {no kd : Int} {v v' : Value} {ts : List Part} {sv : Value} {N : Nat} {zs : List Value} {y : Part} (h : L2 w wr B l no kd v ts sv N zs) (hN : N2 wr wY B l' y) (hA : Adds wY wZ) (hG : Grew wZ w5 22 v v' (ts.length + 1) (ts.map PV ++ [PV y])) : L2 w (w5.setCell ⟨B + 2, 2, none⟩ v') B l' no kd v' (ts ++ [y]) sv N zs := by
  have h1 := (h.take hN.rd hN.T).add hA
  have hT := hG.touch
  have hP := h1.ps.up hT (fun k c => h.fr.own k c)
  have hF : Fresh (B + 3) w5 v' (ts ++ [y]) := (h.take hN.rd hN.T).fr.more hA hG (by have := h.size; have := hN.T.size; omega) (by
    refine (hN.pq.adds hA).mono (fun k _ c => ⟨by have := h.size; omega, fun e => ?_⟩)
    have := (row_low h.fr.rows e).2
    omega)
  have hS : Touch (fun k => k = B + 2) w5 (w5.setCell ⟨B + 2, 2, none⟩ v') := Touch.setCell (T := fun k => k = B + 2) (Touch.refl _ w5) (p := ⟨B + 2, 2, none⟩) (fun _ => rfl) _
  exact ⟨hP.put 2 rfl, hF.touch hS (fun k hk c => by omega), row_touch (row_touch h1.sz hT (fun k hk c => h1.apart hk c)) hS (fun k hk c => by have := h.hi k hk; omega), h.hi⟩
theorem L2.s {w wr : World} {B : Nat} {l : List UInt8} {no kd : Int} {v : Value} {ts : List Part} {N sg sc q : Nat} {zs : List Value} {z : Int} (h : L2 w wr B l no kd v ts (.slice (some ⟨sg, 0, none⟩) N sc) N zs) (hc : wr.cell? ⟨sg, q, none⟩ = some (.int .i64 z)) : S26 B no kd v sg q z wr := ⟨h.ps.pg, hc⟩
theorem N2.s {wr wY : World} {B : Nat} {l : List UInt8} {y : Part} {no kd : Int} {v : Value} {sg q : Nat} {z : Int} (h : N2 wr wY B l y) (hS : S26 B no kd v sg q z wr) (hg : B + 2 < sg) : S26 B no kd v sg q z wY := hS.touch h.T (fun c => by have := own1_eq c; omega) (fun c => by have := own1_eq c; omega)
theorem M2.s {wr wX : World} {B g n : Nat} {l : List UInt8} {xa : Option Addr} {xc : Nat} {no kd : Int} {v : Value} {sg q : Nat} {z : Int} (h : M2 wr wX B g l n xa xc) (hS : S26 B no kd v sg q z wr) (hg : B + 2 < sg) : S26 B no kd v sg q z wX := hS.touch h.T (fun c => by have := own1_eq c; omega) (fun c => by have := own1_eq c; omega)
theorem L2.s5 {w wr wY wZ w5 : World} {B : Nat} {l l' : List UInt8} {no kd : Int} {v v' : Value} {ts : List Part} {N sg sc q : Nat} {zs : List Value} {z : Int} {y : Part} (h : L2 w wr B l no kd v ts (.slice (some ⟨sg, 0, none⟩) N sc) N zs) (hN : N2 wr wY B l' y) (hA : Adds wY wZ) {n : Nat} {xs : List Value} (hG : Grew wZ w5 22 v v' n xs) (hS : S26 B no kd v sg q z wr) : S26 B no kd v sg q z w5 :=
  ((hN.s hS (h.hi sg rfl)).touch hA id id).touch hG.touch (fun c => by have := h.fr.own _ c; omega) (fun c => h.apart (j := sg) rfl c)
theorem wp_append_b1 {w : World} {o : Oper} {act : Act} {K : Act → World → Prop} {Q : Exit → Act → World → Prop} (s x : Operand)
    (ho : o.op = .call { callee := .builtin .append, args := #[s, x], argTypes := #[32, 32] }) (v : Value) (n : Nat) (xs : List Value) (hs : act.eval s = v) (hown : w.ownsRow 0 22 1 v n xs)
    (g : Nat) (u : Value) (hx : act.eval x = .slice (some ⟨g, 0, none⟩) 1 1) (hc : w.cell? ⟨g, 0, none⟩ = some u) (hu : u.oneCell' = true) (hlen : n ≤ 10000000)
    (h : ∀ v' w', Grew w w' 22 v v' (n + 1) (xs ++ [u]) → K (act.put o.dst v') w') : o.wp Tryd.prog act w K Q := by
  obtain ⟨i0, hi, hz0, hz1, hz2⟩ := infoB
  obtain ⟨v', w', hr, h2, h3, _, h5⟩ := run_append_own_at (P := Tryd.prog) w 0 32 o.type 22 i0 (.slice none 0 0) 1 24 Tryd.underlying32 hi hz0 hz1 hz2 rfl (by decide) v n xs hown ⟨g, 0, none⟩ 1 1 [u] rfl (by
    intro j y hj
    match j, hj with
    | 0, hj =>
      obtain rfl : u = y := by simpa using hj
      rw [Addr.add_mid]; exact hc) (fun y hy => by rw [List.mem_singleton.1 hy]; exact hu) (by unfold maxLen; omega) (by omega) (Nat.zero_le _)
  unfold Oper.wp execOp
  simp only [ho, resolve, invoke, builtin, Sem.run_bind, Sem.run_pure, Result.andThen_ok, List.map_toArray, List.map_cons, List.map_nil, hs, hx, hr]
  exact h v' w' ⟨h2, h3, h5⟩
end Go.Proofs.YtidkmamjhpckgaaDoor
