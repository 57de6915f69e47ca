/- Texts put together: RBytes, RParse0, RParse, NRz, NRParse, RFill, NRCells. -/
import Derived.Test.YtplppnngmlljnaaQ08
import Derived.Deep.CutBlock
import Derived.Deep.DeepCutAuto
import Derived.Test.YtplppnngmlljnaaQ01
import Derived.Test.YtplppnngmlljnaaQ13
import Derived.Test.YtplppnngmlljnaaQ16
import Derived.Test.YtplppnngmlljnaaQ15
/- The reference's Taken and Bytes. -/
namespace Go.Proofs.Ytplppnngmlljnaa
open Go.RowKit

set_option maxRecDepth 100000 in
set_option maxHeartbeats 1000000 in
theorem rtaken_any {Q : Nat → Prop} (a : Option Addr) (hs : List Part) (n cap : Nat) (hn : hs.length = n) (w : World) (h : GQ w Q ⟨a, cap, hs⟩) (tk : Nat) (htk : tk = M.taken (hs.map (·.bs))) (hl : tk ≤ 1000000000000000) : Calls Try.prog 43 #[.slice a n cap] w (Tells (.int .i64 (tk : Int)) w) := by
  have HG := hid h
  have HN := hid hn
  have HT := hid htk
  have hn2 : n ≤ tk := by rw [htk, ← hn, ← List.length_map (f := (·.bs))]; unfold M.taken; omega
  clear h hn htk
  go_enter Try.func43, Try.ntmps43
  go_wp2_with fail
  go_loopw [3, 4] (fun r i wr => ∃ (k t : Nat), k ≤ n ∧ t ≤ tk ∧ i = .int .i64 (k : Int) ∧ r = .int .i64 (t : Int) ∧ Hid (t = M.taken ((hs.map (·.bs)).take k)) ∧ wr = w) (fun _ i _ => n - (intOf i).toNat)
  case atStart => exact ⟨0, 0, Nat.zero_le _, Nat.zero_le _, rfl, rfl, rfl, rfl⟩
  case round =>
    obtain ⟨k, t, hk, ht, rfl, rfl, HI, hw⟩ := hrel
    obtain rfl := hw.symm
    by_cases hlt : k < n
    · obtain ⟨y, b, o, hy, hq, ha, hc⟩ := part_get HG.out (k := k) (by rw [HN.out]; exact hlt)
      have ha' : a = some ⟨b, o, none⟩ := ha
      subst ha'
      have HY := hid (taken_next hy)
      obtain ⟨yl, hyl0⟩ : ∃ yl, yl = y.bs.length := ⟨_, rfl⟩
      rw [← hyl0] at hc HY
      have hle : t + (2 + yl) ≤ tk := by
        have h2 := taken_le (hs.map (·.bs)) (k + 1)
        have h3 : M.taken ((hs.map (·.bs)).take (k + 1)) = M.taken ((hs.map (·.bs)).take k) + (2 + yl) := HY.out
        have h4 := HI.out
        have h5 := HT.out
        omega
      clear hy hq ha hyl0
      go_wp2_with fail
      go_roundw
      case rel => exact ⟨k + 1, t + (2 + yl), by omega, by omega, by go_num, by go_num, hid (by rw [HY.out, ← HI.out]), by first | rfl | trivial⟩
      case measure => simp [intOf]; omega
    · obtain rfl : n = k := by omega
      have HE := hid (show t = tk by rw [HI.out, List.take_of_length_le (by rw [List.length_map, HN.out]; exact Nat.le_refl _), HT.out])
      go_wp2_with fail
      go_ret
      exact ⟨by rw [← HE.out]; rfl, rfl⟩
/-- Bytes put behind a row of one's own, where the operation stands alone. -/
theorem wp_append_m {w : World} {o : Oper} {act : Act} {K : Act → World → Prop} {Q : Exit → Act → World → Prop} (s x : Operand)
    (ho : o.op = .call { callee := .builtin .append, args := #[s, x], argTypes := #[30, 30] }) (base : Nat) (v : Value) (n : Nat) (xs : List Value) (hs : act.eval s = v) (hown : w.ownsRow base 5 1 v n xs)
    (a : Option Addr) (bs : List UInt8) (m cap : Nat) (hm : bs.length = m) (hx : act.eval x = .slice a m cap) (hcap : a = none → cap = 0) (hA : At w a bs) (hlen : n + m ≤ 1000000000) (hbase : base ≤ w.heap.size)
    (h : ∀ v' w', w'.ownsRow base 5 1 v' (n + m) (xs ++ S bs) → w.grownBy w' v.ownBlock → K (act.put o.dst v') w') : o.wp Try.prog act w K Q := by
  obtain ⟨i0, hi, hz0, hz1, hz2⟩ := info5all
  cases a with
  | none =>
    obtain rfl := hcap rfl
    obtain rfl : bs = [] := by
      cases bs with
      | nil => rfl
      | cons c bs => obtain ⟨b, o', e, _⟩ := hA 0 c rfl; cases e
    obtain rfl : m = 0 := by rw [← hm]; rfl
    have hrun := run_append_owned_none (P := Try.prog) (w := w) base 30 o.type 5 i0 1 Try.underlying30 hi v n xs hown
    unfold Oper.wp
    simp [execOp, ho, resolve, invoke, builtin, hs, hx, hrun, Result.andThen]
    exact h v w (by simpa [S] using hown) ⟨rfl, rfl, rfl, Nat.le_refl _, fun _ _ _ => rfl⟩
  | some ad =>
    obtain ⟨v', w', hr, h2, h3, _, _⟩ := run_append_own_at (P := Try.prog) w base 30 o.type 5 i0 (.int .u8 0) 1 1 Try.underlying30 hi hz0 hz1 hz2 rfl (by decide) v n xs hown ad m cap (S bs) (by rw [length_S]; omega) (by
      intro j y hj
      rw [S_get] at hj
      obtain ⟨c, hc, rfl⟩ := Option.map_eq_some_iff.1 hj
      obtain ⟨b, o', e, h1⟩ := hA j c hc
      obtain rfl : ad = ⟨b, o', none⟩ := by simpa using e
      rw [Addr.add_mid]; exact h1) (one_S bs) (by unfold maxLen; omega) (by omega) hbase
    unfold Oper.wp execOp
    simp only [ho, resolve, invoke, builtin, Sem.run_bind, Sem.run_pure, Result.andThen_ok, List.map_toArray, List.map_cons, List.map_nil, hs, hx, hr]
    exact h v' w' h2 h3
theorem append_m {w : World} {ops : Array Oper} {rest : List Oper} {o : Oper} {act : Act} {Q : Exit → Act → World → Prop} (hgd : o.guard = none) (s x : Operand)
    (ho : o.op = .call { callee := .builtin .append, args := #[s, x], argTypes := #[30, 30] }) (base : Nat) (v : Value) (n : Nat) (xs : List Value) (hs : act.eval s = v) (hown : w.ownsRow base 5 1 v n xs)
    (a : Option Addr) (bs : List UInt8) (m cap : Nat) (hm : bs.length = m) (hx : act.eval x = .slice a m cap) (hcap : a = none → cap = 0) (hA : At w a bs) (hlen : n + m ≤ 1000000000) (hbase : base ≤ w.heap.size)
    (h : ∀ v' w', w'.ownsRow base 5 1 v' (n + m) (xs ++ S bs) → w.grownBy w' v.ownBlock → wpList Try.prog ops Q rest (act.put o.dst v') w') : wpList Try.prog ops Q (o :: rest) act w :=
  wpList_plain hgd fun _ hK => wp_append_m s x ho base v n xs hs hown a bs m cap hm hx hcap hA hlen hbase (fun v' w' h1 h2 => hK _ _ (h v' w' h1 h2))
theorem row_at {w : World} {base n cap : Nat} {a : Option Addr} {bs : List UInt8} (h : w.ownsRow base 5 1 (.slice a n cap) n (S bs)) : At w a bs := by
  obtain ⟨a', c', e, _, _, hq⟩ := own_cq h
  cases e
  exact hq.at
/-- A row of bytes in new memory, beside a box. -/
structure RowN (w0 w : World) (v : Value) (n : Nat) (bs : List UInt8) : Prop where
  row : w.ownsRow (w0.heap.size + 1) 5 1 v n (S bs)
  len : bs.length = n
  adds : Adds w0 w
  low : w0.heap.size + 1 ≤ w.heap.size
theorem RowN.own {w0 w w1 : World} {v : Value} {bs : List UInt8} {n : Nat} (h : RowN w0 w v n bs) (hA : Adds w w1) : w1.ownsRow (w0.heap.size + 1) 5 1 v n (S bs) := row_touch h.row hA (fun _ _ => id)
theorem RowN.lo {w0 w w1 : World} {v : Value} {bs : List UInt8} {n : Nat} (h : RowN w0 w v n bs) (hA : Adds w w1) : w0.heap.size + 1 ≤ w1.heap.size := Nat.le_trans h.low hA.size
theorem RowN.slice {w0 w : World} {v : Value} {bs : List UInt8} {n : Nat} (h : RowN w0 w v n bs) : ∃ a c, v = .slice a n c := by
  obtain ⟨a, c, e, _⟩ := own_cq h.row
  exact ⟨a, c, e⟩
end Go.Proofs.Ytplppnngmlljnaa

/- The reference's Parse: what bytes are by definition, its state, its second loop's state. -/
namespace Go.Proofs.Ytplppnngmlljnaa.M

/-- A cell as the reference reads it. -/
theorem cell_read {L : List UInt8} {cs : List (List UInt8)} (h : cs.flatten = L.take cs.flatten.length) {i : Nat} {c : List UInt8} (hc : cs[i]? = some c) : (L.drop (cs.take i).flatten.length).take c.length = c := by
  have e2 : cs = cs.take i ++ ([c] ++ cs.drop (i + 1)) := by
    have e1 : cs.take (i + 1) = cs.take i ++ [c] := by rw [List.take_add_one, hc]; rfl
    rw [← List.append_assoc, ← e1, List.take_append_drop]
  have e3 : cs.flatten = (cs.take i).flatten ++ (c ++ (cs.drop (i + 1)).flatten) := by
    conv => lhs; rw [e2]
    simp
  have e4 : (cs.flatten.drop (cs.take i).flatten.length).take c.length = c := by
    rw [e3, List.drop_left' rfl, List.take_left' rfl]
  rw [h, List.drop_take, List.take_take] at e4
  have hle : c.length ≤ cs.flatten.length - (cs.take i).flatten.length := by
    rw [e3, List.length_append, List.length_append]; omega
  rwa [Nat.min_eq_left hle] at e4
end Go.Proofs.Ytplppnngmlljnaa.M

namespace Go.Proofs.Ytplppnngmlljnaa
open Go.RowKit

theorem IsS.above {w w' : World} {T : Nat → Prop} {p : Nat} {s : M.St} (h : IsS w p s) (hT : Touch T w w') (hp : ∀ k, T k → p < k) : IsS w' p s := by
  obtain ⟨a, cap, hb, hL⟩ := h.box
  exact ⟨⟨a, cap, hT.at' hb (fun c => by have := hp p c; omega), ⟨hL.at_.block (fun b o e hb => hT.block b hb (fun c => by have h1 : b < p := (hL.low _ e).2; have := hp b c; omega)), hL.room, hL.non, hL.low⟩⟩, h.good, h.len, h.err⟩
/-- What Parse has found so far: the result's box R, the reader P, the page's box G. -/
structure Ps (w wi : World) (B : Nat) (l : List UInt8) (no kd : Int) (v : Value) : Prop where
  rd : IsS wi (B + 1) ⟨0, l⟩
  pg : wi.heap[B + 2]? = some (.cells #[.int .i64 no, .int .u8 kd, v] 84 (0, 0))
  rs : wi.heap[B]? = some (.cells #[.int .i64 0, .int .u8 0, .slice none 0 0] 84 (0, 0))
  adds : Adds w wi
  base : B = w.heap.size
theorem Ps.reader {w wi w' : World} {B : Nat} {l l' : List UInt8} {no kd : Int} {v : Value} (h : Ps w wi B l no kd v) (hr : IsS w' (B + 1) ⟨0, l'⟩) (hT : Touch (Own1 (.pointer (some ⟨B + 1, 0, none⟩))) wi w') : Ps w w' B l' no kd v := by
  have ho : ∀ k, Own1 (.pointer (some ⟨B + 1, 0, none⟩)) k → k = B + 1 := fun k c => by simp only [Own1, Value.pointer.injEq, Option.some.injEq, Addr.mk.injEq] at c; omega
  exact ⟨hr, hT.at' h.pg (fun c => by have := ho _ c; omega), hT.at' h.rs (fun c => by have := ho _ c; omega), h.adds.then hT (fun i hi c => by have := ho _ c; have := h.base; omega), h.base⟩
theorem Ps.up {w wi w' : World} {T : Nat → Prop} {B : Nat} {l : List UInt8} {no kd : Int} {v : Value} (h : Ps w wi B l no kd v) (hT : Touch T wi w') (hn : ∀ k, T k → B + 2 < k) : Ps w w' B l no kd v :=
  ⟨h.rd.above hT (fun k c => by have := hn k c; omega), hT.at' h.pg (fun c => by have := hn _ c; omega), hT.at' h.rs (fun c => by have := hn _ c; omega), h.adds.then hT (fun i hi c => by have := hn _ c; have := h.base; omega), h.base⟩
theorem Ps.add {w wi w' : World} {B : Nat} {l : List UInt8} {no kd : Int} {v : Value} (h : Ps w wi B l no kd v) (hT : Adds wi w') : Ps w w' B l no kd v := h.up hT (fun _ c => c.elim)
theorem Ps.put {w wi : World} {B : Nat} {l : List UInt8} {no kd no' kd' : Int} {v v' x : Value} (h : Ps w wi B l no kd v) (j : Nat) (e : (#[.int .i64 no, .int .u8 kd, v] : Array Value).setIfInBounds j x = #[.int .i64 no', .int .u8 kd', v']) : Ps w (wi.setCell ⟨B + 2, j, none⟩ x) B l no' kd' v' := by
  have hT : Touch (fun k => k = B + 2) wi (wi.setCell ⟨B + 2, j, none⟩ x) := Touch.setCell (T := fun k => k = B + 2) (Touch.refl _ wi) (p := ⟨B + 2, j, none⟩) (fun _ => rfl) _
  refine ⟨h.rd.above hT (fun k c => by omega), ?_, hT.at' h.rs (by omega), h.adds.then hT (fun i hi c => by have := h.base; omega), h.base⟩
  rw [heap_setCell_same wi (B + 2) j _ 84 _ h.pg, e]
theorem Ps.cell {w wi : World} {B : Nat} {l : List UInt8} {no kd : Int} {v : Value} (h : Ps w wi B l no kd v) : (wi.cell? ⟨B + 2, 0, none⟩ = some (.int .i64 no) ∧ wi.cell? ⟨B + 2, 1, none⟩ = some (.int .u8 kd) ∧ wi.cell? ⟨B + 2, 2, none⟩ = some v) ∧ (wi.frozen? ⟨B + 2, 0, none⟩ = false ∧ wi.frozen? ⟨B + 2, 1, none⟩ = false ∧ wi.frozen? ⟨B + 2, 2, none⟩ = false) :=
  ⟨⟨by have q := cellOf h.pg 0; simpa using q, by have q := cellOf h.pg 1; simpa using q, by have q := cellOf h.pg 2; simpa using q⟩, frozen_of_row wi _ 0 _ 84 h.pg, frozen_of_row wi _ 1 _ 84 h.pg, frozen_of_row wi _ 2 _ 84 h.pg⟩
/-- A part of one's own: room for what it has, and a block that is there. -/
def Rm (n : Nat) (p : Part) : Prop := p.bs.length ≤ p.cap ∧ ∀ ad, p.a = some ad → ad.spot = none ∧ ad.block < n
theorem Rm.mono {n m : Nat} {p : Part} (h : Rm n p) (hm : n ≤ m) : Rm m p := ⟨h.1, fun ad e => ⟨(h.2 ad e).1, Nat.lt_of_lt_of_le (h.2 ad e).2 hm⟩⟩
/-- What Parse tells. -/
def PParse (w : World) (bs : List UInt8) (e : Ending) (w' : World) : Prop := ∃ va vc, ∃ hs : List Part, e = .returned (.tuple #[.agg #[.int .i64 (M.noP bs : Int), .int .u8 ((M.kindP bs).toNat : Int), .slice va hs.length vc], .bool (M.readP bs).isSome]) ∧ Hid (hs.map (·.bs) = M.cellsP bs ∧ GQ w' (fun k => w.heap.size ≤ k) ⟨va, vc, hs⟩ ∧ Adds w w' ∧ hs.length ≤ vc ∧ ∀ p ∈ hs, Rm w'.heap.size p)
theorem PParse.no {w w' : World} {bs : List UInt8} (h : M.readP bs = none) (hA : Adds w w') : PParse w bs (.returned (.tuple #[.agg #[.int .i64 0, .int .u8 0, .slice none 0 0], .bool false])) w' := by
  obtain ⟨h1, h2, h3, _⟩ := M.none_all h
  exact ⟨none, 0, [], by rw [h1, h2, h]; rfl, by rw [h3]; rfl, ⟨CQ.nil _ _ _, fun _ => rfl, fun x hx => by cases hx⟩, hA, Nat.le_refl _, fun x hx => by cases hx⟩
end Go.Proofs.Ytplppnngmlljnaa

namespace Go.Proofs.Ytplppnngmlljnaa
open Go.RowKit

/-- What Parse's second loop has. -/
structure L2 (w wi : World) (B : Nat) (l : List UInt8) (no kd : Int) (v : Value) (ts : List Part) (sv : Value) (N : Nat) (zs : List Value) : Prop where
  ps : Ps w wi B l no kd v
  fr : Fresh (B + 3) wi v ts
  sz : wi.ownsRow 0 3 1 sv N zs
  hi : ∀ j, sv.ownBlock = some j → B + 2 < j
  rm : ∀ p ∈ ts, Rm wi.heap.size p
theorem L2.size {w wi : World} {B : Nat} {l : List UInt8} {no kd : Int} {v : Value} {ts : List Part} {sv : Value} {N : Nat} {zs : List Value} (h : L2 w wi B l no kd v ts sv N zs) : B + 3 ≤ wi.heap.size := lt_of_heap h.ps.pg
theorem L2.apart {w wi : World} {B : Nat} {l : List UInt8} {no kd : Int} {v : Value} {ts : List Part} {sv : Value} {N : Nat} {zs : List Value} (h : L2 w wi B l no kd v ts sv N zs) {j : Nat} (h1 : sv.ownBlock = some j) (h2 : v.ownBlock = some j) : False := by
  obtain ⟨c1, e1⟩ := row_type h.sz h1
  obtain ⟨c2, e2⟩ := row_type h.fr.rows h2
  rw [e1] at e2
  simp at e2
theorem own1_eq {p k : Nat} (h : Own1 (.pointer (some ⟨p, 0, none⟩)) k) : k = p := by
  simp only [Own1, Value.pointer.injEq, Option.some.injEq, Addr.mk.injEq] at h; omega
/-- The reader alone has turned. -/
theorem L2.take {w wi w' : World} {B : Nat} {l l' : List UInt8} {no kd : Int} {v : Value} {ts : List Part} {sv : Value} {N : Nat} {zs : List Value} (h : L2 w wi B l no kd v ts sv N zs) (hr : IsS w' (B + 1) ⟨0, l'⟩) (hT : Touch (Own1 (.pointer (some ⟨B + 1, 0, none⟩))) wi w') : L2 w w' B l' no kd v ts sv N zs :=
  ⟨h.ps.reader hr hT, h.fr.touch hT (fun k hk c => by have := own1_eq c; omega), row_touch h.sz hT (fun k hk c => by have := own1_eq c; have := h.hi k hk; omega), h.hi, fun p hp => (h.rm p hp).mono hT.size⟩
theorem L2.add {w wi w' : World} {B : Nat} {l : List UInt8} {no kd : Int} {v : Value} {ts : List Part} {sv : Value} {N : Nat} {zs : List Value} (h : L2 w wi B l no kd v ts sv N zs) (hA : Adds wi w') : L2 w w' B l no kd v ts sv N zs :=
  ⟨h.ps.add hA, h.fr.touch hA (fun _ _ => id), row_touch h.sz hA (fun _ _ => id), h.hi, fun p hp => (h.rm p hp).mono hA.size⟩
/-- What the round's region reads. -/
def S26 (B : Nat) (no kd : Int) (v : Value) (sg q : Nat) (z : Int) (w' : World) : Prop := w'.heap[B + 2]? = some (.cells #[.int .i64 no, .int .u8 kd, v] 84 (0, 0)) ∧ w'.cell? ⟨sg, q, none⟩ = some (.int .i64 z)
theorem S26.touch {T : Nat → Prop} {B : Nat} {no kd : Int} {v : Value} {sg q : Nat} {z : Int} {w w' : World} (h : S26 B no kd v sg q z w) (hT : Touch T w w') (h1 : ¬ T (B + 2)) (h2 : ¬ T sg) : S26 B no kd v sg q z w' :=
  ⟨hT.at' h.1 h1, by rw [World.cell?_of_block (w := w) (hT.block sg (World.block_lt_of_cell? w _ h.2) h2)]; exact h.2⟩
/-- A cell's bytes taken, beside an empty row. -/
structure M2 (wr wX : World) (B g : Nat) (l : List UInt8) (n : Nat) (xa : Option Addr) (xc : Nat) : Prop where
  rd : IsS wX (B + 1) ⟨0, l.drop n⟩
  T : Touch (Own1 (.pointer (some ⟨B + 1, 0, none⟩))) wr wX
  row : wX.ownsRow g 5 1 (.slice (some ⟨g, 0, none⟩) 0 0) 0 []
  new : wr.heap.size ≤ g
  lt : g ≤ wX.heap.size
  at_ : At wX xa (l.take n)
  non : xa = none → xc = 0
theorem row_lit5 (w : World) : (w.alloc (.cells #[] 5)).ownsRow w.heap.size 5 1 (.slice (some ⟨w.heap.size, 0, none⟩) 0 0) 0 [] := World.ownsRow_lit (base := w.heap.size) (e := 5) (size := 1) w #[] 0 (Nat.le_refl _) (by decide) rfl
theorem M2.a {wr w' : World} {B : Nat} {l : List UInt8} {n : Nat} {xa : Option Addr} {xc : Nat} (hB : B + 3 ≤ wr.heap.size) (h : At w' xa (l.take n) ∧ (xa = none → xc = 0) ∧ IsS w' (B + 1) ⟨0, l.drop n⟩ ∧ Touch (Own1 (.pointer (some ⟨B + 1, 0, none⟩))) (wr.alloc (.cells #[] 5)) w') : M2 wr w' B wr.heap.size l n xa xc :=
  ⟨h.2.2.1, ((Touch.refl _ wr).alloc _).trans h.2.2.2, row_touch (row_lit5 wr) h.2.2.2 (fun k hk c => by have := own1_eq c; simp [Value.ownBlock] at hk; omega), Nat.le_refl _, by have := h.2.2.2.size; simp at this; omega, h.1, h.2.1⟩
theorem M2.b {wr w' : World} {B : Nat} {l : List UInt8} {n : Nat} {xa : Option Addr} {xc : Nat} (h : At w' xa (l.take n) ∧ (xa = none → xc = 0) ∧ IsS w' (B + 1) ⟨0, l.drop n⟩ ∧ Touch (Own1 (.pointer (some ⟨B + 1, 0, none⟩))) wr w') : M2 wr (w'.alloc (.cells #[] 5)) B w'.heap.size l n xa xc :=
  have hA : Adds w' (w'.alloc (.cells #[] 5)) := (Touch.refl _ w').alloc _
  ⟨h.2.2.1.above hA (fun _ c => c.elim), h.2.2.2.trans (hA.mono (fun _ _ c => c.elim)), row_lit5 w', h.2.2.2.size, by simp, h.1.adds hA, h.2.1⟩
/-- The bytes in a row of their own. -/
structure N2 (wr wY : World) (B : Nat) (l : List UInt8) (y : Part) : Prop where
  rd : IsS wY (B + 1) ⟨0, l⟩
  T : Touch (Own1 (.pointer (some ⟨B + 1, 0, none⟩))) wr wY
  pq : PQ wY (fun k => wr.heap.size ≤ k) y
  rm : Rm wY.heap.size y
/-- One more cell. -/
theorem L2.more {w wr wY wZ w5 : World} {B : Nat} {l l' : List UInt8} {no kd : Int} {v v' : Value} {ts : List Part} {sv : Value} {N : Nat} {zs : List Value} {y : Part} (h : L2 w wr B l no kd v ts sv N zs) (hN : N2 wr wY B l' y) (hA : Adds wY wZ) (hG : Grew wZ w5 30 v v' (ts.length + 1) (ts.map PV ++ [PV y])) : L2 w (w5.setCell ⟨B + 2, 2, none⟩ v') B l' no kd v' (ts ++ [y]) sv N zs := by
  have h1 := (h.take hN.rd hN.T).add hA
  have hT := hG.touch
  have hP := h1.ps.up hT (fun k c => h.fr.own k c)
  have hF : Fresh (B + 3) w5 v' (ts ++ [y]) := (h.take hN.rd hN.T).fr.more hA hG (by have := h.size; have := hN.T.size; omega) (by
    refine (hN.pq.adds hA).mono (fun k _ c => ⟨by have := h.size; omega, fun e => ?_⟩)
    have := (row_low h.fr.rows e).2
    omega)
  have hS : Touch (fun k => k = B + 2) w5 (w5.setCell ⟨B + 2, 2, none⟩ v') := Touch.setCell (T := fun k => k = B + 2) (Touch.refl _ w5) (p := ⟨B + 2, 2, none⟩) (fun _ => rfl) _
  exact ⟨hP.put 2 rfl, hF.touch hS (fun k hk c => by omega), row_touch (row_touch h1.sz hT (fun k hk c => h1.apart hk c)) hS (fun k hk c => by have := h.hi k hk; omega), h.hi, fun p hp => (List.mem_append.1 hp).elim (fun hp => (h1.rm p hp).mono (Nat.le_trans hT.size hS.size)) (fun hp => by rw [List.mem_singleton.1 hp]; exact hN.rm.mono (Nat.le_trans hA.size (Nat.le_trans hT.size hS.size)))⟩
theorem L2.s {w wr : World} {B : Nat} {l : List UInt8} {no kd : Int} {v : Value} {ts : List Part} {N sg sc q : Nat} {zs : List Value} {z : Int} (h : L2 w wr B l no kd v ts (.slice (some ⟨sg, 0, none⟩) N sc) N zs) (hc : wr.cell? ⟨sg, q, none⟩ = some (.int .i64 z)) : S26 B no kd v sg q z wr := ⟨h.ps.pg, hc⟩
theorem N2.s {wr wY : World} {B : Nat} {l : List UInt8} {y : Part} {no kd : Int} {v : Value} {sg q : Nat} {z : Int} (h : N2 wr wY B l y) (hS : S26 B no kd v sg q z wr) (hg : B + 2 < sg) : S26 B no kd v sg q z wY := hS.touch h.T (fun c => by have := own1_eq c; omega) (fun c => by have := own1_eq c; omega)
theorem M2.s {wr wX : World} {B g n : Nat} {l : List UInt8} {xa : Option Addr} {xc : Nat} {no kd : Int} {v : Value} {sg q : Nat} {z : Int} (h : M2 wr wX B g l n xa xc) (hS : S26 B no kd v sg q z wr) (hg : B + 2 < sg) : S26 B no kd v sg q z wX := hS.touch h.T (fun c => by have := own1_eq c; omega) (fun c => by have := own1_eq c; omega)
theorem L2.s5 {w wr wY wZ w5 : World} {B : Nat} {l l' : List UInt8} {no kd : Int} {v v' : Value} {ts : List Part} {N sg sc q : Nat} {zs : List Value} {z : Int} {y : Part} (h : L2 w wr B l no kd v ts (.slice (some ⟨sg, 0, none⟩) N sc) N zs) (hN : N2 wr wY B l' y) (hA : Adds wY wZ) {n : Nat} {xs : List Value} (hG : Grew wZ w5 30 v v' n xs) (hS : S26 B no kd v sg q z wr) : S26 B no kd v sg q z w5 :=
  ((hN.s hS (h.hi sg rfl)).touch hA id id).touch hG.touch (fun c => by have := h.fr.own _ c; omega) (fun c => h.apart (j := sg) rfl c)
end Go.Proofs.Ytplppnngmlljnaa

/- The reference's Parse, of 256 bytes. -/
namespace Go.Proofs.Ytplppnngmlljnaa
open Go.RowKit

end Go.Proofs.Ytplppnngmlljnaa

/- The reference: a node that is being read. -/
namespace Go.Proofs.Ytplppnngmlljnaa
open Go.RowKit

theorem IsS.boxR {w : World} {p : Nat} {s : M.St} (h : IsS w p s) : ∃ cs, w.heap[p]? = some (.cells cs 89 (0, 0)) := by
  obtain ⟨a, cap, hb, _⟩ := h.box
  exact ⟨_, hb⟩
/-- A node that is being read. -/
structure Rz (wc wx : World) (N5 : Nat) (leaf : Bool) (z : NM) : Prop where
  touch : Touch (fun j => j = N5) wc wx
  own : NOwn wx wc.heap.size z
  ck : ∀ g, z.kv.ownBlock = some g → Cold wx g
  cv : ∀ g, z.vv.ownBlock = some g → Cold wx g
  ci : ∀ g, z.iv.ownBlock = some g → Cold wx g
  box : wx.heap[N5]? = some (.cells #[.bool leaf, z.kv, z.vv, z.iv] 26 (0, 0))
  lf : z.leaf = leaf
/-- Blocks turn that are neither the box nor rows: of another type, and new or the reader's. -/
theorem Rz.other {wc wx w' : World} {N5 : Nat} {leaf : Bool} {z : NM} (h : Rz wc wx N5 leaf z) {q : Nat} {cs : Array Value} {t : TypeId} (hb : wx.heap[q]? = some (.cells cs t (0, 0))) (ht : t ≠ 9 ∧ t ≠ 30 ∧ t ≠ 3 ∧ t ≠ 5 ∧ t ≠ 26) (hq : wc.heap.size ≤ q) (hT : Touch (fun j => j = q) wx w') : Rz wc w' N5 leaf z := by
  have n1 : ∀ j, z.kv.ownBlock = some j → ¬ j = q := fun j hj c => row_ne h.own.keys hb (fun e => ht.1 e.symm) hj c
  have n2 : ∀ j, z.vv.ownBlock = some j → ¬ j = q := fun j hj c => row_ne h.own.vals hb (fun e => ht.2.1 e.symm) hj c
  have n3 : ∀ j, z.iv.ownBlock = some j → ¬ j = q := fun j hj c => row_ne h.own.kids hb (fun e => ht.2.2.1 e.symm) hj c
  refine ⟨h.touch.then hT (fun j hj e => by omega), ⟨row_touch h.own.keys hT n1, row_touch h.own.vals hT n2, fun p hp => (h.own.each p hp).touch hT (fun k hk cs' fr e => ?_), row_touch h.own.kids hT n3⟩, fun g hg => cold_touch (h.ck g hg) hT (row_lt h.own.keys hg) (n1 g hg), fun g hg => cold_touch (h.cv g hg) hT (row_lt h.own.vals hg) (n2 g hg), fun g hg => cold_touch (h.ci g hg) hT (row_lt h.own.kids hg) (n3 g hg), ?_, h.lf⟩
  · subst hk
    rw [hb] at e
    injection e with e1
    injection e1 with _ e2 _
    exact ht.2.2.2.1 e2
  · rw [hT.block N5 (Array.getElem?_eq_some_iff.1 h.box).1 (fun c => ?_)]
    · exact h.box
    · subst c
      have := h.box
      rw [hb] at this
      injection this with e1
      injection e1 with _ e2 _
      exact ht.2.2.2.2 e2
theorem Rz.adds {wc wx w' : World} {N5 : Nat} {leaf : Bool} {z : NM} (h : Rz wc wx N5 leaf z) (hA : Adds wx w') : Rz wc w' N5 leaf z :=
  ⟨h.touch.then hA (fun _ _ c => c.elim), h.own.adds hA, fun g hg => cold_touch (h.ck g hg) hA (row_lt h.own.keys hg) id, fun g hg => cold_touch (h.cv g hg) hA (row_lt h.own.vals hg) id, fun g hg => cold_touch (h.ci g hg) hA (row_lt h.own.kids hg) id, box_adds h.box hA, h.lf⟩
/-- A reader's call. -/
theorem Rz.read {wc wx w' : World} {N5 p : Nat} {leaf : Bool} {z : NM} {s : M.St} (h : Rz wc wx N5 leaf z) (hr : IsS wx p s) (hp : wc.heap.size ≤ p) (hT : Touch (Own1 (.pointer (some ⟨p, 0, none⟩))) wx w') : Rz wc w' N5 leaf z := by
  obtain ⟨cs, hb⟩ := hr.boxR
  refine h.other hb (by decide) hp (hT.mono (fun j _ c => ?_))
  simp only [Own1, Value.pointer.injEq, Option.some.injEq, Addr.mk.injEq] at c
  exact c.1.symm
theorem rcold_box {w : World} {N5 : Nat} {leaf : Bool} {a b c : Option Addr} {a1 a2 b1 b2 c1 c2 : Nat} (h : w.heap[N5]? = some (.cells #[.bool leaf, .slice a a1 a2, .slice b b1 b2, .slice c c1 c2] 26 (0, 0))) : Cold w N5 := by
  refine cold_cells h (fun u hu c e => ?_)
  simp at hu
  rcases hu with rfl | rfl | rfl | rfl <;> cases e
/-- The reader stays when a row without bytes grows. -/
theorem IsS.grown {w w' : World} {p : Nat} {s : M.St} {B n : Nat} {e : TypeId} {v : Value} {xs : List Value} (h : IsS w p s) (hr : w.ownsRow B e 1 v n xs) (he : e ≠ 89) (hc : ∀ g, v.ownBlock = some g → Cold w g) (hT : Touch (fun j => v.ownBlock = some j) w w') : IsS w' p s := by
  obtain ⟨cs, hb⟩ := h.boxR
  exact h.keep hT (fun k hk => hc k hk) (fun hk => row_ne hr hb he hk rfl)
theorem IsS.boxed {w : World} {p N5 j : Nat} {s : M.St} {leaf : Bool} {z : NM} {v : Value} (h : IsS w p s) (hb : w.heap[N5]? = some (.cells #[.bool leaf, z.kv, z.vv, z.iv] 26 (0, 0))) : IsS (w.setCell ⟨N5, j, none⟩ v) p s := by
  obtain ⟨cs, hr⟩ := h.boxR
  have hT : Touch (fun k => k = N5) w (w.setCell ⟨N5, j, none⟩ v) := Touch.setCell (T := fun k => k = N5) (Touch.refl _ w) (p := ⟨N5, j, none⟩) (fun _ => rfl) _
  refine h.keep hT (fun k hk => by subst hk; exact rcold_box hb) (fun hk => ?_)
  subst hk
  rw [hr] at hb
  injection hb with e1
  injection e1 with _ e2 _
  exact absurd e2 (by decide)
/-- A reader is made of bytes that lie there. -/
theorem IsS.fresh {w : World} {a : Option Addr} {bs : List UInt8} {m cap : Nat} {Q : Nat → Prop} (h : PQ w Q ⟨a, bs, cap⟩) (hm : m = bs.length) (hr : Rm w.heap.size ⟨a, bs, cap⟩) (hl : m ≤ 1000000) : IsS (w.alloc (.cells #[.slice a m cap, .int .i64 0] 89)) w.heap.size ⟨0, bs⟩ := by
  subst hm
  exact ⟨⟨a, cap, heap_alloc_new w _, ⟨(h.at_.at).adds ((Touch.refl _ w).alloc _), hr.1, h.non, hr.2⟩⟩, fun c => absurd rfl c, hl, Nat.zero_le _⟩
/-- A key more. -/
theorem Rz.key {wc W w' : World} {N5 : Nat} {leaf : Bool} {z : NM} {key : List UInt8} {v' : Value} (h : Rz wc W N5 leaf z) (r1 : w'.ownsRow wc.heap.size 9 1 v' (z.ks.length + 1) (Ss z.ks ++ [Str key])) (r2 : Touch (fun j => z.kv.ownBlock = some j) W w') (r4 : ∀ g, v'.ownBlock = some g → Cold w' g) :
    ∃ a' c', v' = .slice a' (z.ks.length + 1) c' ∧ w'.heap[N5]? = some (.cells #[.bool leaf, z.kv, z.vv, z.iv] 26 (0, 0)) ∧ Rz wc (w'.setCell ⟨N5, 1, none⟩ v') N5 leaf ⟨z.leaf, a', c', z.ks ++ [key], z.v, z.ia, z.ic, z.is⟩ := by
  obtain ⟨a', c', rfl, _⟩ := own_cq r1
  have hT : Touch (fun k => k = N5) w' (w'.setCell ⟨N5, 1, none⟩ (.slice a' (z.ks.length + 1) c')) := Touch.setCell (T := fun k => k = N5) (Touch.refl _ w') (p := ⟨N5, 1, none⟩) (fun _ => rfl) _
  have hbx : w'.heap[N5]? = some (.cells #[.bool leaf, z.kv, z.vv, z.iv] 26 (0, 0)) := by
    rw [r2.block N5 (Array.getElem?_eq_some_iff.1 h.box).1 (fun c => row_ne h.own.keys h.box (by decide) c rfl)]; exact h.box
  have k2 := row_touch h.own.vals r2 (fun j hj c => row_apt h.own.vals h.own.keys (by decide) hj c)
  have k3 := row_touch h.own.kids r2 (fun j hj c => row_apt h.own.kids h.own.keys (by decide) hj c)
  have hlow : ∀ j, z.kv.ownBlock = some j → wc.heap.size ≤ j := fun j hj => by
    rcases h.own.keys.2 with ⟨q, _⟩ | ⟨g, cap, cur, q, hb', _⟩
    · rw [q] at hj; cases hj
    · rw [q] at hj
      have e : g = j := Option.some.inj hj
      omega
  have ns : ∀ {e : TypeId} {v : Value} {n : Nat} {xs : List Value}, w'.ownsRow wc.heap.size e 1 v n xs → e ≠ 26 → ∀ j, v.ownBlock = some j → ¬ j = N5 := fun hr he j hj c => row_ne hr hbx he hj c
  have e9 : (z.ks ++ [key]).length = z.ks.length + 1 := by simp
  refine ⟨a', c', rfl, hbx, ⟨(h.touch.then r2 (fun j hj c => by have := hlow j c; omega)).then hT (fun j _ c => c), ⟨?_, row_touch k2 hT (ns k2 (by decide)), fun p hp => (((h.own.each p hp).touch r2 (fun k hk cs fr e => ?_))).touch hT (fun k hk cs fr e => ?_), row_touch k3 hT (ns k3 (by decide))⟩, fun g hg => ?_, fun g hg => ?_, fun g hg => ?_, ?_, h.lf⟩⟩
  · show World.ownsRow _ wc.heap.size 9 1 (.slice a' (z.ks ++ [key]).length c') (z.ks ++ [key]).length (Ss (z.ks ++ [key]))
    rw [e9, show Ss (z.ks ++ [key]) = Ss z.ks ++ [Str key] by simp [Ss]]
    exact row_touch r1 hT (ns r1 (by decide))
  · obtain ⟨cur, q⟩ := row_type h.own.keys hk
    rw [q] at e
    injection e with e1
    injection e1 with _ e2 _
    exact absurd e2 (by decide)
  · subst hk
    rw [hbx] at e
    injection e with e1
    injection e1 with _ e2 _
    exact absurd e2 (by decide)
  · have hg' : (Value.slice a' (z.ks.length + 1) c').ownBlock = some g := by rw [← e9]; exact hg
    exact cold_touch (r4 g hg') hT (row_lt r1 hg') (ns r1 (by decide) g hg')
  · exact cold_touch (cold_touch (h.cv g hg) r2 (row_lt h.own.vals hg) (fun c => row_apt h.own.vals h.own.keys (by decide) hg c)) hT (row_lt k2 hg) (ns k2 (by decide) g hg)
  · exact cold_touch (cold_touch (h.ci g hg) r2 (row_lt h.own.kids hg) (fun c => row_apt h.own.kids h.own.keys (by decide) hg c)) hT (row_lt k3 hg) (ns k3 (by decide) g hg)
  · rw [heap_setCell_same w' N5 1 _ 26 _ hbx]
    show _ = some (Obj.cells #[.bool leaf, .slice a' (z.ks ++ [key]).length c', z.vv, z.iv] 26 (0, 0))
    rw [e9]; rfl
/-- A value more. -/
theorem Rz.value {wc W w' : World} {N5 : Nat} {leaf : Bool} {z : NM} {y : Part} {v' : Value} (h : Rz wc W N5 leaf z) (hy : PT W wc.heap.size y) (r1 : w'.ownsRow wc.heap.size 30 1 v' (z.v.l.length + 1) (z.v.l.map PV ++ [PV y])) (r2 : Touch (fun j => z.vv.ownBlock = some j) W w') (r4 : ∀ g, v'.ownBlock = some g → Cold w' g) :
    ∃ a' c', v' = .slice a' (z.v.l.length + 1) c' ∧ w'.heap[N5]? = some (.cells #[.bool leaf, z.kv, z.vv, z.iv] 26 (0, 0)) ∧ Rz wc (w'.setCell ⟨N5, 2, none⟩ v') N5 leaf ⟨z.leaf, z.ka, z.kc, z.ks, ⟨a', c', z.v.l ++ [y]⟩, z.ia, z.ic, z.is⟩ := by
  obtain ⟨a', c', rfl, _⟩ := own_cq r1
  have hT : Touch (fun k => k = N5) w' (w'.setCell ⟨N5, 2, none⟩ (.slice a' (z.v.l.length + 1) c')) := Touch.setCell (T := fun k => k = N5) (Touch.refl _ w') (p := ⟨N5, 2, none⟩) (fun _ => rfl) _
  have hbx : w'.heap[N5]? = some (.cells #[.bool leaf, z.kv, z.vv, z.iv] 26 (0, 0)) := by
    rw [r2.block N5 (Array.getElem?_eq_some_iff.1 h.box).1 (fun c => row_ne h.own.vals h.box (by decide) c rfl)]; exact h.box
  have k2 := row_touch h.own.keys r2 (fun j hj c => row_apt h.own.keys h.own.vals (by decide) hj c)
  have k3 := row_touch h.own.kids r2 (fun j hj c => row_apt h.own.kids h.own.vals (by decide) hj c)
  have hlow : ∀ j, z.vv.ownBlock = some j → wc.heap.size ≤ j := fun j hj => by
    rcases h.own.vals.2 with ⟨q, _⟩ | ⟨g, cap, cur, q, hb', _⟩
    · rw [q] at hj; cases hj
    · rw [q] at hj
      have e : g = j := Option.some.inj hj
      omega
  have ns : ∀ {e : TypeId} {v : Value} {n : Nat} {xs : List Value}, w'.ownsRow wc.heap.size e 1 v n xs → e ≠ 26 → ∀ j, v.ownBlock = some j → ¬ j = N5 := fun hr he j hj c => row_ne hr hbx he hj c
  have e9 : (z.v.l ++ [y]).length = z.v.l.length + 1 := by simp
  refine ⟨a', c', rfl, hbx, ⟨(h.touch.then r2 (fun j hj c => by have := hlow j c; omega)).then hT (fun j _ c => c), ⟨row_touch k2 hT (ns k2 (by decide)), ?_, fun p hp => (((show PT W wc.heap.size p from by rcases List.mem_append.1 hp with hp | hp; exact h.own.each p hp; rw [List.mem_singleton.1 hp]; exact hy).touch r2 (fun k hk cs fr e => ?_))).touch hT (fun k hk cs fr e => ?_), row_touch k3 hT (ns k3 (by decide))⟩, fun g hg => ?_, fun g hg => ?_, fun g hg => ?_, ?_, h.lf⟩⟩
  · show World.ownsRow _ wc.heap.size 30 1 (.slice a' (z.v.l ++ [y]).length c') (z.v.l ++ [y]).length ((z.v.l ++ [y]).map PV)
    rw [e9, List.map_append]
    exact row_touch r1 hT (ns r1 (by decide))
  · obtain ⟨cur, q⟩ := row_type h.own.vals hk
    rw [q] at e
    injection e with e1
    injection e1 with _ e2 _
    exact absurd e2 (by decide)
  · subst hk
    rw [hbx] at e
    injection e with e1
    injection e1 with _ e2 _
    exact absurd e2 (by decide)
  · exact cold_touch (cold_touch (h.ck g hg) r2 (row_lt h.own.keys hg) (fun c => row_apt h.own.keys h.own.vals (by decide) hg c)) hT (row_lt k2 hg) (ns k2 (by decide) g hg)
  · have hg' : (Value.slice a' (z.v.l.length + 1) c').ownBlock = some g := by rw [← e9]; exact hg
    exact cold_touch (r4 g hg') hT (row_lt r1 hg') (ns r1 (by decide) g hg')
  · exact cold_touch (cold_touch (h.ci g hg) r2 (row_lt h.own.kids hg) (fun c => row_apt h.own.kids h.own.vals (by decide) hg c)) hT (row_lt k3 hg) (ns k3 (by decide) g hg)
  · rw [heap_setCell_same w' N5 2 _ 26 _ hbx]
    show _ = some (Obj.cells #[.bool leaf, z.kv, .slice a' (z.v.l ++ [y]).length c', z.iv] 26 (0, 0))
    rw [e9]; rfl
/-- A kid more. -/
theorem Rz.kid {wc W w' : World} {N5 : Nat} {leaf : Bool} {z : NM} {kid : Int} {v' : Value} (h : Rz wc W N5 leaf z) (r1 : w'.ownsRow wc.heap.size 3 1 v' (z.is.length + 1) (Is z.is ++ [.int .i64 kid])) (r2 : Touch (fun j => z.iv.ownBlock = some j) W w') (r4 : ∀ g, v'.ownBlock = some g → Cold w' g) :
    ∃ a' c', v' = .slice a' (z.is.length + 1) c' ∧ w'.heap[N5]? = some (.cells #[.bool leaf, z.kv, z.vv, z.iv] 26 (0, 0)) ∧ Rz wc (w'.setCell ⟨N5, 3, none⟩ v') N5 leaf ⟨z.leaf, z.ka, z.kc, z.ks, z.v, a', c', z.is ++ [kid]⟩ := by
  obtain ⟨a', c', rfl, _⟩ := own_cq r1
  have hT : Touch (fun k => k = N5) w' (w'.setCell ⟨N5, 3, none⟩ (.slice a' (z.is.length + 1) c')) := Touch.setCell (T := fun k => k = N5) (Touch.refl _ w') (p := ⟨N5, 3, none⟩) (fun _ => rfl) _
  have hbx : w'.heap[N5]? = some (.cells #[.bool leaf, z.kv, z.vv, z.iv] 26 (0, 0)) := by
    rw [r2.block N5 (Array.getElem?_eq_some_iff.1 h.box).1 (fun c => row_ne h.own.kids h.box (by decide) c rfl)]; exact h.box
  have k2 := row_touch h.own.vals r2 (fun j hj c => row_apt h.own.vals h.own.kids (by decide) hj c)
  have k3 := row_touch h.own.keys r2 (fun j hj c => row_apt h.own.keys h.own.kids (by decide) hj c)
  have hlow : ∀ j, z.iv.ownBlock = some j → wc.heap.size ≤ j := fun j hj => by
    rcases h.own.kids.2 with ⟨q, _⟩ | ⟨g, cap, cur, q, hb', _⟩
    · rw [q] at hj; cases hj
    · rw [q] at hj
      have e : g = j := Option.some.inj hj
      omega
  have ns : ∀ {e : TypeId} {v : Value} {n : Nat} {xs : List Value}, w'.ownsRow wc.heap.size e 1 v n xs → e ≠ 26 → ∀ j, v.ownBlock = some j → ¬ j = N5 := fun hr he j hj c => row_ne hr hbx he hj c
  have e9 : (z.is ++ [kid]).length = z.is.length + 1 := by simp
  refine ⟨a', c', rfl, hbx, ⟨(h.touch.then r2 (fun j hj c => by have := hlow j c; omega)).then hT (fun j _ c => c), ⟨row_touch k3 hT (ns k3 (by decide)), row_touch k2 hT (ns k2 (by decide)), fun p hp => (((h.own.each p hp).touch r2 (fun k hk cs fr e => ?_))).touch hT (fun k hk cs fr e => ?_), ?_⟩, fun g hg => ?_, fun g hg => ?_, fun g hg => ?_, ?_, h.lf⟩⟩
  · obtain ⟨cur, q⟩ := row_type h.own.kids hk
    rw [q] at e
    injection e with e1
    injection e1 with _ e2 _
    exact absurd e2 (by decide)
  · subst hk
    rw [hbx] at e
    injection e with e1
    injection e1 with _ e2 _
    exact absurd e2 (by decide)
  · show World.ownsRow _ wc.heap.size 3 1 (.slice a' (z.is ++ [kid]).length c') (z.is ++ [kid]).length (Is (z.is ++ [kid]))
    rw [e9, show Is (z.is ++ [kid]) = Is z.is ++ [.int .i64 kid] by simp [Is]]
    exact row_touch r1 hT (ns r1 (by decide))
  · exact cold_touch (cold_touch (h.ck g hg) r2 (row_lt h.own.keys hg) (fun c => row_apt h.own.keys h.own.kids (by decide) hg c)) hT (row_lt k3 hg) (ns k3 (by decide) g hg)
  · exact cold_touch (cold_touch (h.cv g hg) r2 (row_lt h.own.vals hg) (fun c => row_apt h.own.vals h.own.kids (by decide) hg c)) hT (row_lt k2 hg) (ns k2 (by decide) g hg)
  · have hg' : (Value.slice a' (z.is.length + 1) c').ownBlock = some g := by rw [← e9]; exact hg
    exact cold_touch (r4 g hg') hT (row_lt r1 hg') (ns r1 (by decide) g hg')
  · rw [heap_setCell_same w' N5 3 _ 26 _ hbx]
    show _ = some (Obj.cells #[.bool leaf, z.kv, z.vv, .slice a' (z.is ++ [kid]).length c'] 26 (0, 0))
    rw [e9]; rfl
end Go.Proofs.Ytplppnngmlljnaa

/- The reference: a page's node. -/
namespace Go.Proofs.Ytplppnngmlljnaa
open Go.RowKit

abbrev RZ : Obj := .cells #[.bool false, .slice none 0 0, .slice none 0 0, .slice none 0 0] 26
theorem load_r (w : World) (g : Nat) (cs : Array Value) (hg : w.heap[g]? = some (.cells cs 26 (0, 0))) (hs : cs.size = 4) : (loadVar 26 ⟨g, 0, .none⟩).run Try.prog w = .ok (.agg cs) w :=
  run_loadVar_row w g 26 26 cs (0, 0) _ hg Try.underlying26 rfl (by rw [infoRN.out, hs])
theorem results_r1 {fn : Func} {p : Tmp} (h : fn.results = #[.cell p 26]) (tmps : Array Value) (w : World) (g : Nat) (cs : Array Value) (hp : tmps.getD p undef = .pointer (some ⟨g, 0, .none⟩)) (hg : w.heap[g]? = some (.cells cs 26 (0, 0))) (hs : cs.size = 4) :
    (results fn tmps).run Try.prog w = .ok (.agg cs) w :=
  results_cell_row h tmps w g 26 cs (0, 0) _ hp hg Try.underlying26 rfl (by rw [infoRN.out, hs])
theorem results_r2 {fn : Func} {p u : Tmp} (h : fn.results = #[.cell p 26, .tmp u]) (tmps : Array Value) (w : World) (g : Nat) (cs : Array Value) (hp : tmps.getD p undef = .pointer (some ⟨g, 0, .none⟩)) (hg : w.heap[g]? = some (.cells cs 26 (0, 0))) (hs : cs.size = 4) :
    (results fn tmps).run Try.prog w = .ok (.tuple #[.agg cs, tmps.getD u undef]) w := by
  have q : (asAddr (.pointer (some ⟨g, 0, .none⟩))).run Try.prog w = .ok ⟨g, 0, .none⟩ w := by simp [asAddr]
  rw [results_cell_tmp h, hp, q]
  simp only [Result.andThen, load_r w g cs hg hs]
theorem NOwn.touchR {w w' : World} {B N : Nat} {z : NM} {cs : Array Value} (h : NOwn w B z) (hT : Touch (fun j => j = N) w w') (hb : w.heap[N]? = some (.cells cs 26 (0, 0))) : NOwn w' B z :=
  ⟨row_touch h.keys hT (fun j hj c => row_ne h.keys hb (by decide) hj c), row_touch h.vals hT (fun j hj c => row_ne h.vals hb (by decide) hj c), fun p hp => (h.each p hp).touch hT (fun k hk cs' fr e => by subst hk; rw [hb] at e; injection e with e1; injection e1 with _ e2 _; exact absurd e2 (by decide)), row_touch h.kids hT (fun j hj c => row_ne h.kids hb (by decide) hj c)⟩
/-- The same, of a page of a kind, the parts by name. -/
def PPd (w : World) (cl : List (List UInt8)) (cn : Nat) (kd : Int) (e : Ending) (w' : World) : Prop := ∃ (no : Int) (va : Option Addr) (vc : Nat) (hs : List Part), e = .returned (.tuple #[.agg #[.int .i64 no, .int .u8 kd, .slice va cn vc], .bool true]) ∧ Hid (hs.map (·.bs) = cl ∧ GQ w' (fun _ => True) ⟨va, vc, hs⟩ ∧ Adds w w' ∧ ∀ p ∈ hs, Rm w'.heap.size p)
theorem PParse.nd {f : Nat} {args : Array Value} {w : World} {bs : List UInt8} {cl : List (List UInt8)} {cn : Nat} {kd : UInt8} {kz : Int} (h : Calls Try.prog f args w (PParse w bs)) (hcl : cl = M.cellsP bs) (hcn : cn = cl.length) (hk : M.kindP bs = kd) (hz : kd ≠ 0 ∧ kz = (kd.toNat : Int)) : Calls Try.prog f args w (PPd w cl cn kz) := by
  refine h.mono ?_
  rintro e w' ⟨va, vc, hs, rfl, H⟩
  have hs1 : (M.readP bs).isSome = true := by
    cases hR : M.readP bs with
    | none => rw [(M.none_all hR).2.1] at hk; exact absurd hk.symm hz.1
    | some p => rfl
  have e2 : hs.length = cn := by rw [hcn, hcl, ← H.out.1, List.length_map]
  exact ⟨_, va, vc, hs, by rw [hs1, hk, e2, hz.2], by rw [hcl]; exact H.out.1, H.out.2.1.mono (fun _ _ _ => trivial), H.out.2.2.1, H.out.2.2.2.2⟩
end Go.Proofs.Ytplppnngmlljnaa

/- The reference's Fill. -/
namespace Go.Proofs.Ytplppnngmlljnaa
open Go.RowKit

end Go.Proofs.Ytplppnngmlljnaa

/- The reference: a node's cells. -/
namespace Go.Proofs.Ytplppnngmlljnaa
open Go.RowKit

theorem rbox (w : World) (leaf : Bool) (kv vv iv : Value) : ∃ N0 w1, N0 = w.heap.size ∧ w1 = w.alloc (.cells #[.bool leaf, kv, vv, iv] 26) ∧ Hid (Adds w w1) ∧ Hid (w1.heap[N0]? = some (.cells #[.bool leaf, kv, vv, iv] 26)) :=
  ⟨_, _, rfl, rfl, (Touch.refl _ w).alloc _, heap_alloc_new w _⟩
theorem POwn.row5 {f : Nat} {args : Array Value} {w : World} {bs : List UInt8} {n : Nat} (h : Calls Try.prog f args w (POwn w bs)) (hn : n = bs.length) : Calls Try.prog f args w (PRow5 w bs n) := by
  subst hn
  refine h.mono ?_
  rintro e w' ⟨v, rfl, h1, h2⟩
  obtain ⟨a', cap', rfl, _⟩ := own_cq h1
  exact ⟨a', cap', rfl, h1, h2⟩
/-- What an append to a row of one's own leaves, for a cell. -/
theorem grown_cell {wr w4 w6 : World} {a3 : Option Addr} {L1 c3 L2 : Nat} {x y : List UInt8} {v6 : Value} (h3 : w4.ownsRow wr.heap.size 5 1 (.slice a3 L1 c3) L1 (S x)) (hA : Adds wr w4) (r6 : w6.ownsRow wr.heap.size 5 1 v6 (L1 + L2) (S x ++ S y)) (g6 : w4.grownBy w6 (Value.slice a3 L1 c3).ownBlock) (hL : L1 + L2 = (x ++ y).length) :
    ∃ a6 c6, v6 = .slice a6 (L1 + L2) c6 ∧ Hid (PQ w6 (fun k => wr.heap.size ≤ k) ⟨a6, x ++ y, c6⟩ ∧ L1 + L2 ≤ c6 ∧ Adds wr w6) := by
  obtain ⟨a6, c6, rfl, _⟩ := own_cq r6
  have e : S x ++ S y = S (x ++ y) := by simp [S]
  rw [e, hL] at r6
  obtain ⟨q1, q2, q3⟩ := row_q r6
  rw [hL]
  exact ⟨a6, c6, rfl, ⟨q3, q2⟩, q1, hA.grown g6 (fun k hk hlt => by have := (row_low h3 hk).1; omega)⟩
set_option maxRecDepth 100000 in
set_option maxHeartbeats 4000000 in
theorem rcells_any (x : NM) (w : World) {Q : Nat → Prop} (h : NQ w Q x) (hs : NS x) (hr : N.right x.nd = true) : Calls Try.prog 37 #[x.val] w (PCells w (N.cells x.nd)) := by
  obtain ⟨leaf, ka, kc, ks, g, ia, ic, zs⟩ := x
  have HQ := hid h
  have HS := hid hs
  have HR := hid hr
  obtain ⟨cs, hcs⟩ : ∃ cs, cs = N.cells (NM.nd ⟨leaf, ka, kc, ks, g, ia, ic, zs⟩) := ⟨_, rfl⟩
  rw [← hcs]
  have HCs := hid hcs
  clear h hs hr hcs
  obtain ⟨kn, hkn⟩ : ∃ kn, kn = ks.length := ⟨_, rfl⟩
  have hk9 : kn ≤ 1000 := by rw [hkn]; exact HS.out.k
  unfold NM.val NM.kv NM.vv NM.iv
  simp only [← hkn]
  have HKn := hid hkn
  clear hkn
  obtain ⟨N0, w1, hN0, hw1, HA1, HBx⟩ := rbox w leaf (.slice ka kn kc) (.slice g.a g.l.length g.cap) (.slice ia zs.length ic)
  have HN0 := hid (show w.heap.size ≤ N0 by rw [hN0]; exact Nat.le_refl _)
  have HSz := hid (show w1.heap.size = N0 + 1 by rw [hw1, hN0]; simp)
  go_enter Try.func37, Try.ntmps37
  go_upto_region 1 with fail
  rw [← hw1, ← hN0]
  clear hw1 hN0
  go_upto_region 3 with fail
  go_loopw [3, 4] (fun v t wx => ∃ (k : Nat) (hs : List Part), k ≤ kn ∧ t = .int .i64 (k : Int) ∧ Hid (hs.map (·.bs) = cs.take k ∧ wx.ownsRow 0 30 1 v k (hs.map PV) ∧ (∀ j, v.ownBlock = some j → N0 < j) ∧ (∀ x ∈ hs, PQ wx (fun j => N0 < j ∧ v.ownBlock ≠ some j) x) ∧ Adds w1 wx)) (fun _ t _ => kn - (intOf t).toNat)
  case atStart => exact ⟨0, [], Nat.zero_le _, rfl, rfl, World.ownsRow_nil _ _ _ _, fun j hj => (by cases hj), fun x hx => (by cases hx), Touch.refl _ _⟩
  case round =>
    obtain ⟨k, hs, hk, rfl, HI⟩ := hrel
    obtain ⟨e0, e1, e2, e3⟩ := box_cells (box_adds HBx.out HI.out.2.2.2.2)
    by_cases hlt : k < kn
    · have hlz : (k : Int) < (kn : Int) := by omega
      have hk2 : k < ks.length := by rw [← HKn.out]; exact hlt
      obtain ⟨b, o, ea, hc0⟩ := HQ.out.key hk2
      have ea' : ka = some ⟨b, o, none⟩ := ea
      obtain ⟨key, hkey⟩ : ∃ key, key = ks.getD k [] := ⟨_, rfl⟩
      have hc : wr.cell? ⟨b, o + k, none⟩ = some (.string ⟨key.toArray⟩) := by rw [hkey]; exact below_adds (HA1.out.trans HI.out.2.2.2.2) hc0
      have hkl : key.length ≤ 40 := by rw [hkey]; exact right_key HR.out hk2
      have HKey := hid hkey
      obtain ⟨L1, hL1⟩ : ∃ L1, L1 = (N.txt key).length := ⟨_, rfl⟩
      have HL1 := hid hL1
      have hL9 : L1 ≤ 100 := by
        rw [hL1, N.txt, List.length_append, N.enc_len (by omega)]
        omega
      have HT1 := hid (show Calls Try.prog 67 #[.string ⟨key.toArray⟩] wr (PRow5 wr (N.txt key) L1) from POwn.row5 (rtextp_any key (by omega) wr) hL1)
      have HCk := hid (show cs.take (k + 1) = cs.take k ++ [N.cell (NM.nd ⟨leaf, ka, kc, ks, g, ia, ic, zs⟩) k] by rw [HCs.out]; exact cells_take hk2)
      clear hc0 hkey hL1 ea
      subst ea'
      go_upto_region 6 with (go_at_call 67; refine HT1.out.mono ?_; rintro e w3 ⟨a3, c3, rfl, H3⟩)
      clear e0 e1 e2 e3
      obtain ⟨f0, f1, f2, f3⟩ := box_cells (box_adds HBx.out (HI.out.2.2.2.2.trans H3.out.2))
      cases leaf with
      | true =>
        obtain ⟨hvl, hzl, hvo⟩ : g.l.length = kn ∧ zs.length = 0 ∧ N.valsOk g.bs = true := by
          rcases (right_parts HR.out).2 with ⟨_, q1, q2, q3⟩ | ⟨q0, _⟩
          · exact ⟨by rw [HKn.out]; exact (List.length_map (f := fun x : Part => x.bs)).symm.trans q1, q2, q3⟩
          · cases q0
        have hkg : k < g.l.length := by omega
        obtain ⟨b', o', eb, hv0⟩ := HQ.out.vals.cell hkg
        have eb' : g.a = some ⟨b', o', none⟩ := eb
        obtain ⟨y, hy⟩ : ∃ y, y = g.l[k] := ⟨_, rfl⟩
        have hyq : PQ w Q y := by rw [hy]; exact HQ.out.vals.all _ (List.getElem_mem hkg)
        have hyl : y.bs.length ≤ 49 := by
          have q := hvo
          unfold N.valsOk at q
          rw [List.all_eq_true] at q
          simpa using q y.bs (by rw [hy]; exact List.mem_map.2 ⟨_, List.getElem_mem hkg, rfl⟩)
        have HY := hid (show g.bs.getD k [] = y.bs by rw [hy, Pl.bs, List.getD_eq_getElem?_getD, List.getElem?_map, List.getElem?_eq_getElem hkg]; rfl)
        have hv1 : w3.cell? ⟨b', o' + k, none⟩ = some (.slice y.a y.bs.length y.cap) := by
          have q := below_adds (HA1.out.trans (HI.out.2.2.2.2.trans H3.out.2)) hv0
          rw [hy]; exact q
        have hcv := conv_at w3 y.a y.bs y.cap ((hyq.adds (HA1.out.trans (HI.out.2.2.2.2.trans H3.out.2))).at_.at)
        obtain ⟨L2, hL2⟩ : ∃ L2, L2 = (N.txt y.bs).length := ⟨_, rfl⟩
        have HL2 := hid hL2
        have hL29 : L2 ≤ 100 := by
          rw [hL2, N.txt, List.length_append, N.enc_len (by omega)]
          omega
        have HLL := hid (show L1 + L2 = (N.txt key ++ N.txt y.bs).length by rw [List.length_append, ← HL1.out, ← hL2])
        have HT2 := hid (show Calls Try.prog 67 #[.string ⟨y.bs.toArray⟩] w3 (PRow5 w3 (N.txt y.bs) L2) from POwn.row5 (rtextp_any y.bs (by omega) w3) hL2)
        obtain ⟨yl, hyl2⟩ : ∃ yl, yl = y.bs.length := ⟨_, rfl⟩
        rw [← hyl2] at hv1 hcv
        generalize (⟨y.bs.toArray⟩ : ByteArray) = YB at HT2 hcv
        obtain ⟨ya, hya⟩ : ∃ ya, ya = y.a := ⟨_, rfl⟩
        obtain ⟨yc, hyc⟩ : ∃ yc, yc = y.cap := ⟨_, rfl⟩
        rw [← hya, ← hyc] at hv1 hcv
        obtain ⟨vl, hvlE⟩ : ∃ vl, vl = g.l.length := ⟨_, rfl⟩
        rw [eb', ← hvlE] at f2
        have hkv : k < vl := by omega
        clear hvl hzl hvo hkg hv0 eb eb' hy hyq hyl hL2 hyl2 hya hyc hvlE
        go_wp2_with (first
          | (go_at_call 67; refine HT2.out.mono ?_; rintro e w4 ⟨a4, c4, rfl, H4⟩; have R3 := hid (row_touch H3.out.1 H4.out.2 (fun _ _ => id)))
          | (at_builtin; refine append_m rfl _ _ rfl wr.heap.size (.slice a3 L1 c3) L1 (S (N.txt key)) rfl R3.out a4 (N.txt y.bs) L2 c4 HL2.out.symm rfl (row_q H4.out.1).2.1 (row_at H4.out.1) (by omega) (Nat.le_trans H3.out.2.size H4.out.2.size) ?_; intro v6 w6 r6 g6; obtain ⟨a6, c6, hv6, H6⟩ := grown_cell R3.out (H3.out.2.trans H4.out.2) r6 g6 HLL.out; subst hv6; clear r6 g6; have HA4 := hid (fun o => show (w6.alloc o).ownsRow 0 30 1 u3 k (hs.map PV) from row_touch HI.out.2.1 (H6.out.2.2.alloc o) (fun _ _ => id)))
          | (at_builtin; refine append_b1 rfl _ _ rfl u3 k (hs.map PV) rfl (HA4.out _) w6.heap.size (.slice a6 (L1 + L2) c6) rfl (cellOf (heap_alloc_new w6 _) 0) rfl (by omega) ?_; intro v5 w5 G5; have HG := hid G5; clear G5))
        go_roundw
        case rel =>
          have hcell : N.cell (NM.nd ⟨true, some ⟨b, o, none⟩, kc, ks, g, ia, ic, zs⟩) k = N.txt key ++ N.txt y.bs := by
            show N.txt (ks.getD k []) ++ _ = _
            rw [← HKey.out]
            show _ ++ N.txt (g.bs.getD k []) = _
            rw [HY.out]
          exact ⟨k + 1, hs ++ [⟨a6, N.txt key ++ N.txt y.bs, c6⟩], by omega, by go_num, hid (cells_step HI.out (Touch.refl _ _) H6.out HG.out HLL.out HSz.out (by rw [HCk.out, hcell]))⟩
        case measure => simp [intOf]; omega
      | false =>
        obtain ⟨hzl, hzo⟩ : zs.length = kn ∧ N.kidsOk zs = true := by
          rcases (right_parts HR.out).2 with ⟨q0, _⟩ | ⟨_, q1, q2, q3, _⟩
          · cases q0
          · exact ⟨by rw [HKn.out]; exact q1, q3⟩
        have hkz : k < zs.length := by omega
        obtain ⟨b', o', eb, hv0⟩ := HQ.out.kid (i := k) hkz
        have eb' : ia = some ⟨b', o', none⟩ := eb
        obtain ⟨z, hz⟩ : ∃ z, z = zs.getD k 0 := ⟨_, rfl⟩
        have hzr : 0 ≤ z ∧ z ≤ 2147483647 := by
          have q := hzo
          unfold N.kidsOk at q
          rw [List.all_eq_true] at q
          have q2 := q z (by rw [hz, List.getD_eq_getElem?_getD, List.getElem?_eq_getElem hkz]; exact List.getElem_mem hkz)
          simpa using q2
        obtain ⟨m, hm⟩ : ∃ m : Nat, z = (m : Int) := ⟨z.toNat, by omega⟩
        have hv1 : w3.cell? ⟨b', o' + k, none⟩ = some (.int .i64 (m : Int)) := by
          have q := below_adds (HA1.out.trans (HI.out.2.2.2.2.trans H3.out.2)) hv0
          rw [← hm, hz]; exact q
        have HY := hid (show (zs.getD k 0).toNat = m by rw [← hz, hm]; rfl)
        have hm9 : m ≤ 2147483647 := by omega
        have hwz : IntKind.u64.wrap (m : Int) = (m : Int) := by rw [IntKind.wrap_u64]; omega
        obtain ⟨L2, hL2⟩ : ∃ L2, L2 = (M.fix m 4).length := ⟨_, rfl⟩
        have HL2 := hid hL2
        have hL29 : L2 ≤ 4 := by rw [hL2, M.len_fix]; exact Nat.le_refl _
        have HLL := hid (show L1 + L2 = (N.txt key ++ M.fix m 4).length by rw [List.length_append, ← HL1.out, ← hL2])
        have HT2 := hid (show Calls Try.prog 68 #[.int .u64 (m : Int), .int .i64 4] w3 (PRow5 w3 (M.fix m 4) L2) from POwn.row5 (rfixedp_any m (by omega) 4 w3) hL2)
        obtain ⟨zl, hzlE⟩ : ∃ zl, zl = zs.length := ⟨_, rfl⟩
        rw [eb', ← hzlE] at f3
        have hkv : k < zl := by omega
        clear hzl hzo hkz hv0 eb eb' hz hzr hm hL2 hzlE
        go_wp2_with (first
          | (go_at_call 68; refine HT2.out.mono ?_; rintro e w4 ⟨a4, c4, rfl, H4⟩; have R3 := hid (row_touch H3.out.1 H4.out.2 (fun _ _ => id)))
          | (at_builtin; refine append_m rfl _ _ rfl wr.heap.size (.slice a3 L1 c3) L1 (S (N.txt key)) rfl R3.out a4 (M.fix m 4) L2 c4 HL2.out.symm rfl (row_q H4.out.1).2.1 (row_at H4.out.1) (by omega) (Nat.le_trans H3.out.2.size H4.out.2.size) ?_; intro v6 w6 r6 g6; obtain ⟨a6, c6, hv6, H6⟩ := grown_cell R3.out (H3.out.2.trans H4.out.2) r6 g6 HLL.out; subst hv6; clear r6 g6; have HA4 := hid (fun o => show (w6.alloc o).ownsRow 0 30 1 u3 k (hs.map PV) from row_touch HI.out.2.1 (H6.out.2.2.alloc o) (fun _ _ => id)))
          | (at_builtin; refine append_b1 rfl _ _ rfl u3 k (hs.map PV) rfl (HA4.out _) w6.heap.size (.slice a6 (L1 + L2) c6) rfl (cellOf (heap_alloc_new w6 _) 0) rfl (by omega) ?_; intro v5 w5 G5; have HG := hid G5; clear G5))
        go_roundw
        case rel =>
          have hcell : N.cell (NM.nd ⟨false, some ⟨b, o, none⟩, kc, ks, g, ia, ic, zs⟩) k = N.txt key ++ M.fix m 4 := by
            show N.txt (ks.getD k []) ++ _ = _
            rw [← HKey.out]
            show _ ++ M.fix (zs.getD k 0).toNat 4 = _
            rw [HY.out]
          exact ⟨k + 1, hs ++ [⟨a6, N.txt key ++ M.fix m 4, c6⟩], by omega, by go_num, hid (cells_step HI.out (Touch.refl _ _) H6.out HG.out HLL.out HSz.out (by rw [HCk.out, hcell]))⟩
        case measure => simp [intOf]; omega
    · obtain rfl : k = kn := by omega
      have hlz : ¬ (k : Int) < (k : Int) := by omega
      have hcl : cs.length = k := by rw [HCs.out, len_cells, HKn.out]; rfl
      have HCl := hid hcl
      obtain ⟨va, vc, hv, hle, hnon, hq⟩ := own_cq HI.out.2.1
      have hlen : hs.length = k := by rw [← List.length_map (f := fun x : Part => x.bs), HI.out.1, List.length_take, hcl, Nat.min_self]
      subst hv
      have HV := hid (show hs.map (·.bs) = cs ∧ GQ wr (fun j => w.heap.size ≤ j) ⟨va, vc, hs⟩ ∧ Adds w wr ∧ k ≤ vc from
        ⟨by rw [HI.out.1, ← hcl, List.take_length], ⟨hq.mono (fun j _ hj => by have := HI.out.2.2.1 j hj; have := HN0.out; omega), hnon, fun x hx => (HI.out.2.2.2.1 x hx).mono (fun j _ hj => by have := hj.1; have := HN0.out; omega)⟩, HA1.out.trans HI.out.2.2.2.2, hle⟩)
      clear hq hnon hle hlen hcl
      go_wp2_with fail
      go_ret
      refine ⟨va, vc, hs, congrArg (fun n => Ending.returned (.slice va n vc)) HCl.out.symm, HV.out.1, HV.out.2.1, HV.out.2.2.1, by rw [HCl.out]; exact HV.out.2.2.2⟩
end Go.Proofs.Ytplppnngmlljnaa
