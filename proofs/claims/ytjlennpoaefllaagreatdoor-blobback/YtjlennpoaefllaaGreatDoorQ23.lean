/- Texts put together: PChange, PCalls, PCalls2. -/
import Derived.Test.YtjlennpoaefllaaGreatDoorQ07
/- A page with cells taken out and put in: page.change, Insert, Replace, Remove. -/
namespace Go.Proofs.YtjlennpoaefllaaGreatDoor
open Go.RowKit

set_option maxRecDepth 100000 in
theorem CQ.pre {w : World} {Q : Nat → Prop} {a : Option Addr} {xs : List Value} (h : CQ w Q a xs) (n : Nat) : CQ w Q a (xs.take n) := by
  intro j u hj
  rw [List.getElem?_take] at hj
  split at hj
  · exact h j u hj
  · cases hj
set_option maxRecDepth 100000 in
theorem CQ.suf {w : World} {Q : Nat → Prop} {a : Option Addr} {xs : List Value} (h : CQ w Q a xs) (cap n : Nat) (hc : xs.length ≤ cap) : CQ w Q (sufAt a cap n) (xs.drop n) := by
  unfold sufAt
  by_cases hn : cap = n
  · rw [List.drop_eq_nil_of_le (by omega)]; exact CQ.nil _ _ _
  · rw [if_neg hn]
    intro j u hj
    rw [List.getElem?_drop] at hj
    obtain ⟨b, o, rfl, hq, hcell⟩ := h _ u hj
    exact ⟨b, o + n, by simp [Addr.add_mid], hq, by rw [Nat.add_assoc]; exact hcell⟩
theorem GQ.pre {w : World} {Q : Nat → Prop} {a : Option Addr} {cap : Nat} {hs : List Part} (h : GQ w Q ⟨a, cap, hs⟩) (n : Nat) : GQ w Q ⟨a, cap, hs.take n⟩ :=
  ⟨by have q := h.at_.pre n; rw [← List.map_take] at q; exact q, h.non, fun x hx => h.all x (List.mem_of_mem_take hx)⟩
set_option maxRecDepth 100000 in
theorem GQ.suf {w : World} {Q : Nat → Prop} {a : Option Addr} {cap : Nat} {hs : List Part} (h : GQ w Q ⟨a, cap, hs⟩) (n : Nat) (hc : hs.length ≤ cap) : GQ w Q ⟨sufAt a cap n, cap - n, hs.drop n⟩ := by
  refine ⟨by have q := h.at_.suf cap n (by rw [List.length_map]; exact hc); rw [← List.map_drop] at q; exact q, fun e => ?_, fun x hx => h.all x (List.mem_of_mem_drop hx)⟩
  have e' : sufAt a cap n = none := e
  unfold sufAt at e'
  by_cases hn : cap = n
  · show cap - n = 0
    omega
  · rw [if_neg hn] at e'
    have ha : a = none := by cases a with | none => rfl | some x => cases e'
    have : cap = 0 := h.non ha
    show cap - n = 0
    omega
end Go.Proofs.YtjlennpoaefllaaGreatDoor

/- Kind, Count, Free, Get, Cells, Insert, Replace, Remove of a page. -/
namespace Go.Proofs.YtjlennpoaefllaaGreatDoor
open Go.RowKit

namespace M
def getE (bs : List UInt8) (i : Int) : Nat := match readP bs with
  | none => 22
  | some p => if i < 0 ∨ (p.cells.length : Int) ≤ i then 40 else 0
end M
set_option maxRecDepth 100000 in
set_option maxHeartbeats 400000 in
theorem gkind_any (a : Option Addr) (bs : List UInt8) (n cap : Nat) (w : World) (hn : bs.length = n) (hc : n ≤ cap) (hA : At w a bs) : Calls Tryz.prog 116 #[.slice a n cap] w (Adding (.int .u8 ((M.kindP bs).toNat : Int)) w) := by
  cases hR : M.readP bs with
  | none =>
    have H := hid (gread_none hR a n cap w hn hc hA)
    have HE := hid (M.none_all hR).2.1
    clear hA hn hR
    go_enter Tryz.func116, Tryz.ntmps116
    go_wp2_with (go_at_call 141; refine H.out.mono ?_; rintro e w1 ⟨va, vc, rfl, hA1⟩; have HA1 := hid hA1; clear hA1)
    go_ret
    exact ⟨by rw [HE.out]; rfl, HA1.out.alloc _⟩
  | some p =>
    have H := hid (gread_some hR a n cap w hn hc hA)
    have HE := hid (M.some_all hR).2.1
    clear hA hn hR
    go_enter Tryz.func116, Tryz.ntmps116
    go_wp2_with (go_at_call 141; refine H.out.mono ?_; rintro e w1 ⟨va, vc, hs, rfl, hA1⟩; have HA1 := hid hA1.out.2.2.1; clear hA1)
    go_ret
    exact ⟨by rw [HE.out]; rfl, HA1.out.alloc _⟩
end Go.Proofs.YtjlennpoaefllaaGreatDoor

/- Get, Cells, Insert, Replace, Remove of a page. -/
namespace Go.Proofs.YtjlennpoaefllaaGreatDoor
open Go.RowKit

set_option maxRecDepth 100000 in
theorem clone_own (a : Option Addr) (bs : List UInt8) (n cap : Nat) (hn : bs.length = n) (w : World) (hl : n ≤ 1000000) (hcap : a = none → cap = 0) (hA : At w a bs) : Calls Tryz.prog 137 #[.slice a n cap] w (POwn w bs) := by
  subst hn
  cases a with
  | none =>
    obtain rfl := hcap rfl
    obtain rfl : bs = [] := by
      cases bs with
      | nil => rfl
      | cons c bs => obtain ⟨b, o', e, _⟩ := hA 0 c rfl; cases e
    refine (clone_nil w).mono ?_
    rintro e w' ⟨rfl, rfl⟩
    exact ⟨_, rfl, World.ownsRow_nil _ _ _ _, Touch.refl _ _⟩
  | some ad => exact clone_some ad bs cap w hl hA
/-- Bytes of one's own, and why none. -/
def PGot (w : World) (cs : List UInt8) (er : Nat) (e : Ending) (w' : World) : Prop := ∃ ga gc, e = .returned (.tuple #[.slice ga cs.length gc, .int .i64 (er : Int)]) ∧ Hid (w'.ownsRow w.heap.size 5 1 (.slice ga cs.length gc) cs.length (S cs) ∧ Adds w w')
set_option maxRecDepth 100000 in
theorem PGot.nil {w w' : World} {cs : List UInt8} {er : Nat} {z : Int} (hA : Adds w w') (h1 : cs = []) (h2 : (er : Int) = z) : PGot w cs er (.returned (.tuple #[.slice none 0 0, .int .i64 z])) w' := by
  subst h1
  subst h2
  exact ⟨none, 0, rfl, World.ownsRow_nil _ _ _ _, hA⟩
set_option maxRecDepth 100000 in
theorem one_cell (w : World) (a : Option Addr) (bs : List UInt8) (n cap : Nat) (hn : bs.length = n) (hc : a = none → cap = 0) (hA : At w a bs) : GQ (w.alloc (.cells #[.slice a n cap] 43)) (fun _ => True) ⟨some ⟨w.heap.size, 0, none⟩, 1, [⟨a, bs, cap⟩]⟩ := by
  subst hn
  refine ⟨fun j u hj => ⟨w.heap.size, 0, rfl, trivial, ?_⟩, fun e => (by cases e), fun x hx => ?_⟩
  · match j, hj with
    | 0, hj =>
      have e : Value.slice a bs.length cap = u := Option.some.inj hj
      subst e
      rw [cellOf (heap_alloc_new w _)]; rfl
    | j + 1, hj => simp at hj
  · rw [List.mem_singleton.1 hx]
    exact ⟨(hA.adds ((Touch.refl _ w).alloc _)).cq (fun _ _ _ => trivial), hc⟩
set_option maxRecDepth 100000 in
theorem PTold.more {w w1 : World} {cs : List UInt8} {er : Nat} (hA : Adds w w1) {e : Ending} {w' : World} (h : PTold w1 cs er e w') : PTold w cs er e w' := by
  obtain ⟨a, cap, he, H⟩ := h
  exact ⟨a, cap, he, H.out.1, H.out.2.1, ⟨H.out.2.2.1.1, fun b o e => Nat.le_trans hA.size (H.out.2.2.1.2 b o e)⟩, hA.trans H.out.2.2.2⟩
end Go.Proofs.YtjlennpoaefllaaGreatDoor
