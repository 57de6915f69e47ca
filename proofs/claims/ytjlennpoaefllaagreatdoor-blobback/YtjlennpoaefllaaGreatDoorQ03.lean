/- Texts put together: Put, Put2, Put3, Keep, RPut. -/
import Derived.Test.YtjlennpoaefllaaGreatDoorQ02
/- Numbers as bytes: groups, PutUint, PutInt, PutText, PutFixed, PutFloat. -/
namespace Go.Proofs.YtjlennpoaefllaaGreatDoor
open Go.RowKit

set_option maxRecDepth 100000 in
theorem At.one (w : World) (c : UInt8) : At (w.alloc (.cells #[.int .u8 (c.toNat : Int)] 5)) (some ⟨w.heap.size, 0, none⟩) [c] := by
  intro j x hj
  refine ⟨_, _, rfl, ?_⟩
  rw [cell_of_row _ _ _ _ _ _ (heap_alloc_new w _)]
  match j, hj with
  | 0, hj => obtain rfl : c = x := Option.some.inj hj; rfl
  | j + 1, hj => simp at hj
set_option maxRecDepth 100000 in
theorem own_base {w : World} {b b' : Nat} {v : Value} {n : Nat} {xs : List Value} (h : w.ownsRow b 5 1 v n xs) (hb : b' ≤ b) : w.ownsRow b' 5 1 v n xs := by
  obtain ⟨q1, q2⟩ := h
  refine ⟨q1, ?_⟩
  rcases q2 with q2 | ⟨g, cap, cur, q2, q3, q4⟩
  · exact .inl q2
  · exact .inr ⟨g, cap, cur, q2, Nat.le_trans hb q3, q4⟩
set_option maxRecDepth 100000 in
theorem Parts.two {w : World} {x y : Part} (h1 : At w x.a x.bs) (h2 : At w y.a y.bs) (n1 : x.a = none → x.cap = 0) (n2 : y.a = none → y.cap = 0) :
    Parts (w.alloc (.cells #[.slice x.a x.bs.length x.cap, .slice y.a y.bs.length y.cap] 43)) w.heap.size [x, y] := by
  intro j z hj
  have hA : Adds w (w.alloc (.cells #[.slice x.a x.bs.length x.cap, .slice y.a y.bs.length y.cap] 43)) := (Touch.refl _ w).alloc _
  rw [cell_of_row _ _ _ _ _ _ (heap_alloc_new w _)]
  match j, hj with
  | 0, hj => obtain rfl : x = z := Option.some.inj hj; exact ⟨rfl, h1.adds hA, n1⟩
  | 1, hj => obtain rfl : y = z := Option.some.inj hj; exact ⟨rfl, h2.adds hA, n2⟩
  | j + 2, hj => simp at hj
set_option maxRecDepth 100000 in
theorem Parts.three {w : World} {x y u : Part} (h1 : At w x.a x.bs) (h2 : At w y.a y.bs) (h3 : At w u.a u.bs) (n1 : x.a = none → x.cap = 0) (n2 : y.a = none → y.cap = 0) (n3 : u.a = none → u.cap = 0) :
    Parts (w.alloc (.cells #[.slice x.a x.bs.length x.cap, .slice y.a y.bs.length y.cap, .slice u.a u.bs.length u.cap] 43)) w.heap.size [x, y, u] := by
  intro j z hj
  have hA : Adds w (w.alloc (.cells #[.slice x.a x.bs.length x.cap, .slice y.a y.bs.length y.cap, .slice u.a u.bs.length u.cap] 43)) := (Touch.refl _ w).alloc _
  rw [cell_of_row _ _ _ _ _ _ (heap_alloc_new w _)]
  match j, hj with
  | 0, hj => obtain rfl : x = z := Option.some.inj hj; exact ⟨rfl, h1.adds hA, n1⟩
  | 1, hj => obtain rfl : y = z := Option.some.inj hj; exact ⟨rfl, h2.adds hA, n2⟩
  | 2, hj => obtain rfl : u = z := Option.some.inj hj; exact ⟨rfl, h3.adds hA, n3⟩
  | j + 3, hj => simp at hj
set_option maxRecDepth 100000 in
theorem concat_two {w : World} (x y : Part) (h1 : At w x.a x.bs) (h2 : At w y.a y.bs) (n1 : x.a = none → x.cap = 0) (n2 : y.a = none → y.cap = 0) (hl : x.bs.length + y.bs.length ≤ 10000000) :
    Calls Tryz.prog 108 #[.slice (some ⟨w.heap.size, 0, none⟩) 2 2] (w.alloc (.cells #[.slice x.a x.bs.length x.cap, .slice y.a y.bs.length y.cap] 43)) fun e w' => ∃ v, e = .returned v ∧ w'.ownsRow w.heap.size 5 1 v (x.bs ++ y.bs).length (S (x.bs ++ y.bs)) ∧ Adds w w' := by
  have hf : flat [x, y] = x.bs ++ y.bs := by simp [flat]
  refine (concat_any w.heap.size [x, y] _ (by simp) (by rw [hf, List.length_append]; exact hl) (Parts.two h1 h2 n1 n2)).mono ?_
  rintro e w' ⟨v, rfl, h3, h4⟩
  rw [hf] at h3
  exact ⟨v, rfl, own_base h3 (by simp), ((Touch.refl _ w).alloc _).trans h4⟩
end Go.Proofs.YtjlennpoaefllaaGreatDoor

/- PutText, PutFixed, PutFloat. -/
namespace Go.Proofs.YtjlennpoaefllaaGreatDoor
open Go.RowKit

end Go.Proofs.YtjlennpoaefllaaGreatDoor

/- PutFixed, PutFloat. -/
namespace Go.Proofs.YtjlennpoaefllaaGreatDoor
open Go.RowKit

namespace M
set_option maxRecDepth 100000 in
theorem fix_head (k : Nat) : ∀ n, fix n (k + 1) = UInt8.ofNat (n / 256 ^ k % 256) :: fix n k := by
  induction k with
  | zero => intro n; simp [fix]
  | succ k ih =>
    intro n
    rw [fix, ih (n / 256), fix, List.cons_append, Nat.div_div_eq_div_mul, ← Nat.pow_succ']
/-- Eight bytes, of which k are laid. -/
def row (n k : Nat) : List UInt8 := List.replicate (8 - k) 0 ++ fix n k
set_option maxRecDepth 100000 in
theorem len_row (n k : Nat) (h : k ≤ 8) : (row n k).length = 8 := by rw [row, List.length_append, List.length_replicate, len_fix]; omega
set_option maxRecDepth 100000 in
theorem row_set (n k : Nat) (h : k < 8) : (row n k).set (7 - k) (UInt8.ofNat (n / 256 ^ k % 256)) = row n (k + 1) := by
  rw [row, row, fix_head, show 8 - k = (7 - k) + 1 by omega, show 8 - (k + 1) = 7 - k by omega, List.replicate_succ', List.append_assoc]
  rw [List.set_append_right _ _ (by simp)]
  simp
end M
set_option maxRecDepth 100000 in
theorem S_set (bs : List UInt8) (j : Nat) (c : UInt8) : (S bs).toArray.setIfInBounds j (.int .u8 (c.toNat : Int)) = (S (bs.set j c)).toArray := by
  rw [List.setIfInBounds_toArray, S, S, List.map_set]
  rfl
set_option maxRecDepth 100000 in
theorem byte_shift (n k : Nat) : (n : Int) / 2 ^ (8 * k) % 256 = ((UInt8.ofNat (n / 256 ^ k % 256)).toNat : Int) := by
  rw [M.ofNat_toNat _ (by omega), show 256 ^ k = 2 ^ (8 * k) by rw [Nat.pow_mul]]
  simp
set_option maxRecDepth 100000 in
theorem M.fix_drop (n q d : Nat) : (M.fix n (q + d)).drop d = M.fix n q := by
  induction d with
  | zero => rfl
  | succ d ih => rw [show q + (d + 1) = (q + d) + 1 by omega, M.fix_head, List.drop_succ_cons]; exact ih
set_option maxRecDepth 100000 in
theorem slice66 (g q : Nat) (hq : q ≤ 8) (w : World) : (Instr.sliceAt 177 (.pointer (some ⟨g, 0, none⟩)) (some (.int .i64 (8 - (q : Int)))) none none).run Tryz.prog w = .ok (.slice (some ⟨g, if q = 0 then 0 else 8 - q, none⟩) q q) w := by
  obtain ⟨i0, hi, hz0, hz1, hz2⟩ := info5all
  have hl : Tryz.prog.arrayLen 177 = 8 := by kernel_rfl
  have he : Tryz.prog.elem 177 = 5 := by kernel_rfl
  have e2 : (8 - (q : Int)).toNat = 8 - q := by omega
  rw [run_sliceAt_array_l (P := Tryz.prog) w 177 ⟨g, 0, none⟩ (by rw [hl, he]; exact Tryz.underlying177) .i64 (8 - (q : Int)) (by omega) (by rw [hl]; omega), he, hl, e2]
  simp only [sizeOf, typeInfo, Sem.run_bind, Sem.run_pure, Result.andThen, slicedAt]
  simp [hi, hz1]
  by_cases h0 : q = 0
  · subst h0; simp
  · rw [if_neg (by omega), if_neg h0, show 8 - (8 - q) = q by omega, Addr.add_mid]
    simp
set_option maxRecDepth 100000 in
set_option maxHeartbeats 1000000 in
theorem putFixed_any (a : Option Addr) (bs : List UInt8) (cap n : Nat) (z : Int) (w : World) (hl : bs.length ≤ 1000000) (hcap : a = none → cap = 0) (hA : At w a bs) : Calls Tryz.prog 105 #[.slice a bs.length cap, .int .u64 (n : Int), .int .i64 z] w (POwn w (bs ++ M.fix n (M.clamp z))) := by
  have HL := hid hl
  have HA := hid (And.intro hA hcap)
  clear hA hl hcap
  go_enter Tryz.func105, Tryz.ntmps105
  go_wp2
  go_loopw [9] (fun i wz => ∃ k : Nat, k ≤ 8 ∧ i = .int .i64 (k : Int) ∧ Hid (wz.heap[w.heap.size]? = some (.cells (S (M.row n k)).toArray 177 (0, 0)) ∧ Adds w wz)) (fun i _ => 8 - (intOf i).toNat)
  case atStart => exact ⟨0, by omega, rfl, heap_alloc_new w _, (Touch.refl _ w).alloc _⟩
  case round =>
    obtain ⟨k, hk, rfl, HI⟩ := hrel
    by_cases h8 : k < 8
    · obtain ⟨c, hc⟩ : ∃ c, c = UInt8.ofNat (n / 256 ^ k % 256) := ⟨_, rfl⟩
      have hby := byte_shift n k
      rw [← hc] at hby
      obtain ⟨x, hx⟩ : ∃ x, (M.row n k)[7 - k]? = some x := ⟨_, List.getElem?_eq_getElem (by rw [M.len_row n k hk]; omega)⟩
      have hcell : wr.cell? ⟨w.heap.size, 7 - k, none⟩ = some (.int .u8 (x.toNat : Int)) := by rw [cellOf HI.out.1 (7 - k), List.getElem?_toArray, S_get, hx]; rfl
      have hfr : wr.frozen? ⟨w.heap.size, 7 - k, none⟩ = false := frozen_of_row wr _ _ _ 177 HI.out.1
      have HN := hid (show (wr.setCell ⟨w.heap.size, 7 - k, none⟩ (.int .u8 (c.toNat : Int))).heap[w.heap.size]? = some (.cells (S (M.row n (k + 1))).toArray 177 (0, 0)) by
        rw [heap_setCell_same wr _ (7 - k) _ 177 _ HI.out.1, S_set, hc, M.row_set n k h8])
      clear hc hx
      go_wp2
      go_roundw
      case rel => exact ⟨k + 1, by omega, by go_num, HN.out, HI.out.2.setCell (fun h => absurd h (Nat.lt_irrefl _)) _⟩
      case measure => simp [intOf]; omega
    · obtain rfl : k = 8 := by omega
      have H1 := hid (within_any z wr)
      have hc8 := M.clamp_le z
      generalize hq : M.clamp z = q at *
      have HAt := hid (show At wr (some ⟨w.heap.size, 0, none⟩) (M.fix n 8) by
        intro j c hj
        refine ⟨_, _, rfl, ?_⟩
        rw [Nat.zero_add, cellOf HI.out.1 j, List.getElem?_toArray, S_get]
        rw [show M.row n 8 = M.fix n 8 by simp [M.row], hj]; rfl)
      have HAq := hid (show At wr (some ⟨w.heap.size, if q = 0 then 0 else 8 - q, none⟩) (M.fix n q) by
        by_cases h0 : q = 0
        · subst h0; exact At.nil _ _
        · rw [if_neg h0]
          have h := HAt.out.suf (8 - q)
          rw [Nat.zero_add] at h
          have e := M.fix_drop n q (8 - q)
          rw [show q + (8 - q) = 8 by omega] at e
          rw [e] at h; exact h)
      have hlq := M.len_fix q n
      have hsl := slice66 w.heap.size q hc8 wr
      generalize (if q = 0 then 0 else 8 - q) = oq at *
      have HC := hid (concat_two (w := wr) ⟨a, bs, cap⟩ ⟨some ⟨w.heap.size, oq, none⟩, M.fix n q, q⟩ (HA.out.1.adds HI.out.2) HAq.out HA.out.2 (fun e => by cases e) (by have := HL.out; simp; omega))
      simp only [hlq] at HC
      clear hq hlq
      go_wp2_with (first
        | (go_at_call 135; refine H1.out.mono ?_; rintro e w' ⟨rfl, rfl⟩)
        | (go_at_call 108; refine HC.out.mono ?_; rintro e w2 ⟨v2, rfl, h1, h2⟩; have HZ := hid (And.intro h1 h2); clear h1 h2))
      go_ret
      exact ⟨_, rfl, own_base HZ.out.1 HI.out.2.size, HI.out.2.trans HZ.out.2⟩
end Go.Proofs.YtjlennpoaefllaaGreatDoor

/- What a reader's calls leave as it was. -/
namespace Go.Proofs.YtjlennpoaefllaaGreatDoor
open Go.RowKit

/-- A block without bytes. -/
def Cold (w : World) (k : Nat) : Prop := ∀ j c, w.cell? ⟨k, j, none⟩ ≠ some (.int .u8 c)
set_option maxRecDepth 100000 in
theorem At.cold {w w' : World} {T : Nat → Prop} {a : Option Addr} {l : List UInt8} (h : At w a l) (hT : Touch T w w') (hc : ∀ k, T k → Cold w k) : At w' a l := by
  intro j c hj
  obtain ⟨b, o, rfl, hcell⟩ := h j c hj
  refine ⟨b, o, rfl, ?_⟩
  rw [World.cell?_of_block (w := w) (hT.block b (World.block_lt_of_cell? w _ hcell) (fun ht => hc b ht _ _ hcell))]
  exact hcell
theorem Lies.cold {w w' : World} {T : Nat → Prop} {p : Nat} {a : Option Addr} {l : List UInt8} {cap : Nat} (h : Lies w p a l cap) (hT : Touch T w w') (hc : ∀ k, T k → Cold w k) : Lies w' p a l cap :=
  ⟨h.at_.cold hT hc, h.room, h.non, h.low⟩
set_option maxRecDepth 100000 in
theorem cold_three {w : World} {k : Nat} {x : Bool} {y : Int} {a : Option Addr} {n cap : Nat} {t : TypeId} {fr : Nat × Nat} (h : w.heap[k]? = some (.cells #[.bool x, .int .i64 y, .slice a n cap] t fr)) : Cold w k := by
  intro j c
  rw [cellOf h j]
  match j with
  | 0 => simp
  | 1 => simp
  | 2 => simp
  | j + 3 => simp
set_option maxRecDepth 100000 in
theorem cold_two {w : World} {k : Nat} {y : Int} {a : Option Addr} {n cap : Nat} {t : TypeId} {fr : Nat × Nat} (h : w.heap[k]? = some (.cells #[.slice a n cap, .int .i64 y] t fr)) : Cold w k := by
  intro j c
  rw [cellOf h j]
  match j with
  | 0 => simp
  | 1 => simp
  | j + 2 => simp
set_option maxRecDepth 100000 in
theorem RD.cold {w : World} {v : Value} {s : M.St} (h : RD w v s) : ∀ k, Own1 v k → Cold w k := by
  intro k hk
  rcases h with ⟨rfl, _⟩ | ⟨p, rfl, hb, _⟩ | ⟨p, rfl, hR⟩
  · cases hk
  · obtain rfl : p = k := by simpa [Own1] using hk
    exact cold_three hb
  · obtain rfl : p = k := by simpa [Own1] using hk
    obtain ⟨a, cap, hb, _⟩ := hR.box
    exact cold_three hb
set_option maxRecDepth 100000 in
theorem IsS.cold {w : World} {p : Nat} {s : M.St} (h : IsS w p s) : ∀ k, Own1 (.pointer (some ⟨p, 0, none⟩)) k → Cold w k := by
  intro k hk
  obtain rfl : p = k := by simpa [Own1] using hk
  obtain ⟨a, cap, hb, _⟩ := h.box
  exact cold_two hb
set_option maxRecDepth 100000 in
theorem lt_of_heap {w : World} {p : Nat} {o : Obj} (h : w.heap[p]? = some o) : p < w.heap.size := by
  rcases Nat.lt_or_ge p w.heap.size with h1 | h1
  · exact h1
  · rw [Array.getElem?_eq_none h1] at h; cases h
set_option maxRecDepth 100000 in
theorem RD.lt {w : World} {p : Nat} {s : M.St} (h : RD w (.pointer (some ⟨p, 0, none⟩)) s) : p < w.heap.size := by
  rcases h with ⟨e, _⟩ | ⟨q, e, hb, _⟩ | ⟨q, e, hR⟩
  · cases e
  · obtain rfl : p = q := by simpa using e
    exact lt_of_heap hb
  · obtain rfl : p = q := by simpa using e
    obtain ⟨a, cap, hb, _⟩ := hR.box
    exact lt_of_heap hb
set_option maxRecDepth 100000 in
theorem IsS.lt {w : World} {p : Nat} {s : M.St} (h : IsS w p s) : p < w.heap.size := by
  obtain ⟨a, cap, hb, _⟩ := h.box
  exact lt_of_heap hb
set_option maxRecDepth 100000 in
theorem RD.keep {w w' : World} {T : Nat → Prop} {v : Value} {s : M.St} (h : RD w v s) (hT : Touch T w w') (hc : ∀ k, T k → Cold w k) (hn : ∀ k, Own1 v k → ¬ T k) : RD w' v s := by
  rcases h with h | ⟨p, rfl, hb, hs⟩ | ⟨p, rfl, hR⟩
  · exact .inl h
  · exact .inr (.inl ⟨p, rfl, by rw [hT.block p (lt_of_heap hb) (hn p rfl)]; exact hb, hs⟩)
  · obtain ⟨a, cap, hb, hL⟩ := hR.box
    exact .inr (.inr ⟨p, rfl, ⟨⟨a, cap, by rw [hT.block p (lt_of_heap hb) (hn p rfl)]; exact hb, hL.cold hT hc⟩, hR.good, hR.len, hR.err⟩⟩)
set_option maxRecDepth 100000 in
theorem IsS.keep {w w' : World} {T : Nat → Prop} {p : Nat} {s : M.St} (h : IsS w p s) (hT : Touch T w w') (hc : ∀ k, T k → Cold w k) (hn : ¬ T p) : IsS w' p s := by
  obtain ⟨a, cap, hb, hL⟩ := h.box
  exact ⟨⟨a, cap, by rw [hT.block p (lt_of_heap hb) hn]; exact hb, hL.cold hT hc⟩, h.good, h.len, h.err⟩
theorem RD.adds {w w' : World} {v : Value} {s : M.St} (h : RD w v s) (hA : Adds w w') : RD w' v s := h.keep hA (fun _ h => h.elim) (fun _ _ => id)
theorem IsS.adds {w w' : World} {p : Nat} {s : M.St} (h : IsS w p s) (hA : Adds w w') : IsS w' p s := h.keep hA (fun _ h => h.elim) id
/-- Another reader than the one that was called. -/
theorem RD.other {w w' : World} {p q : Nat} {s : M.St} {u : M.St} (h : RD w (.pointer (some ⟨p, 0, none⟩)) s) (hq : RD w (.pointer (some ⟨q, 0, none⟩)) u) (hT : Touch (Own1 (.pointer (some ⟨q, 0, none⟩))) w w') (hne : p ≠ q) : RD w' (.pointer (some ⟨p, 0, none⟩)) s :=
  h.keep hT hq.cold (fun k hk hk2 => hne (by simp only [Own1, Value.pointer.injEq, Option.some.injEq, Addr.mk.injEq] at hk hk2; omega))
/-- A new block was turned alone. -/
theorem Adds.own {w w1 w2 : World} {p : Nat} (h : Adds w w1) (hT : Touch (Own1 (.pointer (some ⟨p, 0, none⟩))) w1 w2) (hp : w.heap.size ≤ p) : Adds w w2 :=
  h.then hT (fun i hi e => by simp only [Own1, Value.pointer.injEq, Option.some.injEq, Addr.mk.injEq] at e; omega)
end Go.Proofs.YtjlennpoaefllaaGreatDoor

/- The reference's Uint, Int, Text, Fixed and Float. -/
namespace Go.Proofs.YtjlennpoaefllaaGreatDoor
open Go.RowKit

theorem own_lit (w : World) (c : UInt8) : (w.alloc (.cells #[.int .u8 (c.toNat : Int)] 5)).ownsRow w.heap.size 5 1 (.slice (some ⟨w.heap.size, 0, none⟩) 1 1) 1 (S [c]) :=
  World.ownsRow_lit (base := w.heap.size) (e := 5) (size := 1) w #[.int .u8 (c.toNat : Int)] 1 (Nat.le_refl _) (by decide) rfl

set_option maxRecDepth 100000 in
set_option maxHeartbeats 1000000 in
theorem rfixedp_hi (n : Nat) (hn : n < 18446744073709551616) (z : Int) (hz : 8 < z) (w : World) : Calls Tryz.prog 89 #[.int .u64 (n : Int), .int .i64 z] w (POwn w (M.fix n 8)) := by
  go_enter Tryz.func89, Tryz.ntmps89
  go_wp2
  go_loopw [0, 5, 6] (fun x v i wz => ∃ k : Nat, k ≤ 8 ∧ x = .int .u64 ((n / 256 ^ k : Nat) : Int) ∧ i = .int .i64 (k : Int) ∧ Hid (wz.ownsRow w.heap.size 5 1 v (M.fix n k).length (S (M.fix n k)) ∧ Adds w wz)) (fun _ _ i _ => 8 - (intOf i).toNat)
  case atStart => exact ⟨0, by omega, by simp, rfl, World.ownsRow_nil _ _ _ _, Touch.refl _ _⟩
  case round =>
    obtain ⟨k, hk, rfl, rfl, HI⟩ := hrel
    by_cases hlt : k < 8
    · obtain ⟨c, hc⟩ : ∃ c : UInt8, c = UInt8.ofNat (n / 256 ^ k % 256) := ⟨_, rfl⟩
      have HE := hid (show M.fix n (k + 1) = [c] ++ M.fix n k by rw [M.fix_head, ← hc]; rfl)
      have HD := hid (show n / 256 ^ (k + 1) = n / 256 ^ k / 256 by rw [Nat.div_div_eq_div_mul, Nat.pow_succ])
      have hcv : ((n / 256 ^ k : Nat) : Int) % 256 = (c.toNat : Int) := by rw [hc, M.ofNat_toNat _ (by omega)]; omega
      obtain ⟨a1, cap1, rfl, hL⟩ := Own.lies HI.out.1
      have HL := hid (hL.adds ((Touch.refl _ wr).alloc (.cells #[.int .u8 (c.toNat : Int)] 5)))
      have hkl := M.len_fix k n
      have hmlt : n / 256 ^ k < 18446744073709551616 := Nat.lt_of_le_of_lt (Nat.div_le_self _ _) hn
      clear hc hL
      generalize n / 256 ^ k = m at *
      go_wp2_with (first
        | (at_builtin; refine append_bytes rfl _ _ rfl w.heap.size (.slice (some ⟨wr.heap.size, 0, none⟩) 1 1) 1 (S [c]) rfl (own_base (own_lit wr c) HI.out.2.size) a1 (M.fix n k) cap1 (by rw [hkl]; rfl) HL.out.non HL.out.at_ (by omega) (by have := HI.out.2.size; simp; omega) ?_; intro v2 w2 hown1 hgrow1 hne1; have Q2 := hid (And.intro hown1 (show Adds w w2 from Touch.grown (HI.out.2.alloc _) hgrow1 (fun j hj hlt => by simp [Value.ownBlock] at hj; have := HI.out.2.size; omega))); clear hown1 hgrow1 hne1))
      go_roundw
      case rel =>
        refine ⟨k + 1, by omega, by rw [HD.out]; first | rfl | simp, by go_num, ?_, Q2.out.2⟩
        rw [HE.out, List.length_append, S, List.map_append]
        exact Q2.out.1
      case measure => simp [intOf]; omega
    · obtain rfl : k = 8 := by omega
      go_wp2
      go_ret
      exact ⟨_, rfl, HI.out.1, HI.out.2⟩
set_option maxRecDepth 100000 in
set_option maxHeartbeats 1000000 in
theorem rfixedp_mid (n q : Nat) (hn : n < 18446744073709551616) (hq : q ≤ 8) (w : World) : Calls Tryz.prog 89 #[.int .u64 (n : Int), .int .i64 (q : Int)] w (POwn w (M.fix n q)) := by
  go_enter Tryz.func89, Tryz.ntmps89
  go_wp2
  go_loopw [0, 5, 6] (fun x v i wz => ∃ k : Nat, k ≤ q ∧ x = .int .u64 ((n / 256 ^ k : Nat) : Int) ∧ i = .int .i64 (k : Int) ∧ Hid (wz.ownsRow w.heap.size 5 1 v (M.fix n k).length (S (M.fix n k)) ∧ Adds w wz)) (fun _ _ i _ => q - (intOf i).toNat)
  case atStart => exact ⟨0, by omega, by simp, rfl, World.ownsRow_nil _ _ _ _, Touch.refl _ _⟩
  case round =>
    obtain ⟨k, hk, rfl, rfl, HI⟩ := hrel
    by_cases hlt : k < q
    · obtain ⟨c, hc⟩ : ∃ c : UInt8, c = UInt8.ofNat (n / 256 ^ k % 256) := ⟨_, rfl⟩
      have HE := hid (show M.fix n (k + 1) = [c] ++ M.fix n k by rw [M.fix_head, ← hc]; rfl)
      have HD := hid (show n / 256 ^ (k + 1) = n / 256 ^ k / 256 by rw [Nat.div_div_eq_div_mul, Nat.pow_succ])
      have hcv : ((n / 256 ^ k : Nat) : Int) % 256 = (c.toNat : Int) := by rw [hc, M.ofNat_toNat _ (by omega)]; omega
      obtain ⟨a1, cap1, rfl, hL⟩ := Own.lies HI.out.1
      have HL := hid (hL.adds ((Touch.refl _ wr).alloc (.cells #[.int .u8 (c.toNat : Int)] 5)))
      have hkl := M.len_fix k n
      have hmlt : n / 256 ^ k < 18446744073709551616 := Nat.lt_of_le_of_lt (Nat.div_le_self _ _) hn
      clear hc hL
      generalize n / 256 ^ k = m at *
      go_wp2_with (first
        | (at_builtin; refine append_bytes rfl _ _ rfl w.heap.size (.slice (some ⟨wr.heap.size, 0, none⟩) 1 1) 1 (S [c]) rfl (own_base (own_lit wr c) HI.out.2.size) a1 (M.fix n k) cap1 (by rw [hkl]; rfl) HL.out.non HL.out.at_ (by omega) (by have := HI.out.2.size; simp; omega) ?_; intro v2 w2 hown1 hgrow1 hne1; have Q2 := hid (And.intro hown1 (show Adds w w2 from Touch.grown (HI.out.2.alloc _) hgrow1 (fun j hj hlt => by simp [Value.ownBlock] at hj; have := HI.out.2.size; omega))); clear hown1 hgrow1 hne1))
      go_roundw
      case rel =>
        refine ⟨k + 1, by omega, by rw [HD.out]; first | rfl | simp, by go_num, ?_, Q2.out.2⟩
        rw [HE.out, List.length_append, S, List.map_append]
        exact Q2.out.1
      case measure => simp [intOf]; omega
    · obtain rfl : k = q := by omega
      go_wp2
      go_ret
      exact ⟨_, rfl, HI.out.1, HI.out.2⟩
set_option maxRecDepth 100000 in
set_option maxHeartbeats 1000000 in
theorem rfixedp_lo (n : Nat) (z : Int) (hz : z < 0) (w : World) : Calls Tryz.prog 89 #[.int .u64 (n : Int), .int .i64 z] w (POwn w (M.fix n 0)) := by
  go_enter Tryz.func89, Tryz.ntmps89
  go_wp2
  go_loopw [5, 6] (fun v i wz => v = .slice none 0 0 ∧ i = .int .i64 0 ∧ wz = w) (fun _ _ _ => 0)
  case atStart => exact ⟨rfl, rfl, rfl⟩
  case round =>
    obtain ⟨rfl, rfl, rfl⟩ := hrel
    go_wp2
    go_ret
    exact ⟨_, rfl, World.ownsRow_nil _ _ _ _, Touch.refl _ _⟩
theorem rfixedp_any (n : Nat) (hn : n < 18446744073709551616) (z : Int) (w : World) : Calls Tryz.prog 89 #[.int .u64 (n : Int), .int .i64 z] w (POwn w (M.fix n (M.clamp z))) := by
  by_cases h0 : z < 0
  · rw [M.clamp, if_pos h0]; exact rfixedp_lo n z h0 w
  · by_cases h8 : 8 < z
    · rw [M.clamp, if_neg h0, if_pos h8]; exact rfixedp_hi n hn z h8 w
    · rw [M.clamp, if_neg h0, if_neg h8]
      have h := rfixedp_mid n z.toNat hn (by omega) w
      rw [Int.toNat_of_nonneg (by omega)] at h
      exact h
end Go.Proofs.YtjlennpoaefllaaGreatDoor
