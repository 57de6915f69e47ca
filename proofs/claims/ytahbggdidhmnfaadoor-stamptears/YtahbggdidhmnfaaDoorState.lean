/- What a reader's calls tell of what is left, by definition; where a reader stands in memory. -/
import Derived.Test.YtahbggdidhmnfaaDoorMem
namespace Go.Proofs.YtahbggdidhmnfaaDoor
open Go.RowKit

namespace M
/-- A reader: the first refusal (0: none), and what is left. -/
structure St where
  e : Nat
  l : List UInt8
def uintR (most : Nat) (s : St) : Nat × St :=
  if s.e ≠ 0 then (0, s) else
  match scan 0 s.l with
  | .error e => (0, ⟨e, []⟩)
  | .ok (n, r) => if most < n then (0, ⟨3, []⟩) else (n, ⟨0, r⟩)
def intR (s : St) : Int × St := (unzig (uintR 18446744073709551615 s).1, (uintR 18446744073709551615 s).2)
def takeR (n : Nat) (s : St) : List UInt8 × St :=
  if s.e ≠ 0 then ([], s) else if s.l.length < n then ([], ⟨21, []⟩) else (s.l.take n, ⟨0, s.l.drop n⟩)
def clamp (z : Int) : Nat := if z < 0 then 0 else if 8 < z then 8 else z.toNat
def atLeast0 (z : Int) : Nat := if z < 0 then 0 else z.toNat
def textR (most : Int) (s : St) : List UInt8 × St := takeR (uintR (atLeast0 most) s).1 (uintR (atLeast0 most) s).2
def fixedR (size : Int) (s : St) : Nat × St := (unfix (takeR (clamp size) s).1, (takeR (clamp size) s).2)
def floatR (s : St) : Nat × St := if canon (fixedR 8 s).1 = (fixedR 8 s).1 then fixedR 8 s else (0, ⟨22, []⟩)
def endE (s : St) : Nat := if 0 < s.l.length then 22 else s.e

theorem uintR_ref {most : Nat} {s : St} (h : s.e ≠ 0) : uintR most s = (0, s) := by rw [uintR, if_pos h]
theorem uintR_err {most : Nat} {s : St} {e : Nat} (h : s.e = 0) (hs : scan 0 s.l = .error e) : uintR most s = (0, ⟨e, []⟩) := by rw [uintR, if_neg (by omega), hs]
theorem uintR_big {most : Nat} {s : St} {n : Nat} {r : List UInt8} (h : s.e = 0) (hs : scan 0 s.l = .ok (n, r)) (hm : most < n) : uintR most s = (0, ⟨3, []⟩) := by
  rw [uintR, if_neg (by omega), hs]; simp [hm]
theorem uintR_ok {most : Nat} {s : St} {n : Nat} {r : List UInt8} (h : s.e = 0) (hs : scan 0 s.l = .ok (n, r)) (hm : ¬ most < n) : uintR most s = (n, ⟨0, r⟩) := by
  rw [uintR, if_neg (by omega), hs]; simp [hm]
theorem uintR_lt (most : Nat) (s : St) : (uintR most s).1 < 18446744073709551616 ∧ (uintR most s).1 ≤ most := by
  rw [uintR]
  split
  · simp
  · cases hs : scan 0 s.l with
    | error e => simp
    | ok v =>
      obtain ⟨n, r⟩ := v
      simp only
      split
      · simp
      · exact ⟨(scan_one hs).2, by omega⟩
theorem takeR_ref {n : Nat} {s : St} (h : s.e ≠ 0) : takeR n s = ([], s) := by rw [takeR, if_pos h]
theorem takeR_short {n : Nat} {s : St} (h : s.e = 0) (hl : s.l.length < n) : takeR n s = ([], ⟨21, []⟩) := by rw [takeR, if_neg (by omega), if_pos hl]
theorem takeR_ok {n : Nat} {s : St} (h : s.e = 0) (hl : ¬ s.l.length < n) : takeR n s = (s.l.take n, ⟨0, s.l.drop n⟩) := by rw [takeR, if_neg (by omega), if_neg hl]
theorem clamp_le (z : Int) : clamp z ≤ 8 := by unfold clamp; split <;> (try split) <;> omega
theorem takeR_len (n : Nat) (s : St) : (takeR n s).1.length ≤ n := by
  rw [takeR]
  split
  · simp
  · split
    · simp
    · simp; omega
theorem unfix_lt (l : List UInt8) (h : l.length ≤ 8) : unfix l < 18446744073709551616 := by
  have h1 := (fix_unfix l.length l rfl).2
  have h2 : 256 ^ l.length ≤ 256 ^ 8 := Nat.pow_le_pow_right (by decide) h
  omega
theorem fixedR_lt (z : Int) (s : St) : (fixedR z s).1 < 18446744073709551616 := unfix_lt _ (Nat.le_trans (takeR_len _ _) (clamp_le z))
end M

/-- The cell of a struct that is known whole. -/
theorem cellOf {w : World} {p : Nat} {cs : Array Value} {t : TypeId} {fr : Nat × Nat} (h : w.heap[p]? = some (.cells cs t fr)) (j : Nat) : w.cell? ⟨p, j, none⟩ = cs[j]? := cell_of_row w p j cs t fr h

/-- Bytes that lie in a block below p. -/
structure Lies (w : World) (p : Nat) (a : Option Addr) (l : List UInt8) (cap : Nat) : Prop where
  at_ : At w a l
  room : l.length ≤ cap
  non : a = none → cap = 0
  low : ∀ ad, a = some ad → ad.spot = none ∧ ad.block < p
theorem Lies.nil (w : World) (p : Nat) : Lies w p none [] 0 := ⟨At.nil _ _, Nat.le_refl _, fun _ => rfl, fun _ h => by cases h⟩
theorem Lies.touch {w w' : World} {p q : Nat} {a : Option Addr} {l : List UInt8} {cap : Nat} (h : Lies w p a l cap) (hT : Touch (fun k => k = q) w w') (hq : p ≤ q) : Lies w' p a l cap :=
  ⟨h.at_.block (fun b o e hb => hT.block b hb (fun c => by have h2 : b < p := (h.low _ e).2; omega)), h.room, h.non, h.low⟩
theorem Lies.adds {w w' : World} {p : Nat} {a : Option Addr} {l : List UInt8} {cap : Nat} (h : Lies w p a l cap) (hT : Adds w w') : Lies w' p a l cap :=
  ⟨h.at_.adds hT, h.room, h.non, h.low⟩
/-- What is left behind n bytes. -/
theorem Lies.drop {w : World} {p : Nat} {a : Option Addr} {l : List UInt8} {cap : Nat} (h : Lies w p a l cap) (n : Nat) (hn : n ≤ l.length) :
    Lies w p (if cap = n then a else a.map (·.add n)) (l.drop n) (cap - n) := by
  refine ⟨?_, by rw [List.length_drop]; have := h.room; omega, ?_, ?_⟩
  · by_cases hc : cap = n
    · rw [if_pos hc]
      have : l.drop n = [] := List.drop_eq_nil_of_le (by have := h.room; omega)
      rw [this]; exact At.nil _ _
    · rw [if_neg hc]
      cases a with
      | none => exact absurd (h.non rfl) (by have := h.room; omega)
      | some ad =>
        obtain ⟨b, o, sp⟩ := ad
        obtain rfl : sp = none := (h.low _ rfl).1
        show At w (some (Addr.add ⟨b, o, none⟩ n)) _
        rw [Addr.add_mid]
        exact h.at_.suf n
  · intro e
    by_cases hc : cap = n
    · omega
    · rw [if_neg hc] at e
      cases a with
      | none => have := h.non rfl; omega
      | some ad => cases e
  · intro ad e
    by_cases hc : cap = n
    · rw [if_pos hc] at e; exact h.low ad e
    · rw [if_neg hc] at e
      cases a with
      | none => cases e
      | some ad' =>
        obtain ⟨b, o, sp⟩ := ad'
        obtain rfl : sp = none := (h.low _ rfl).1
        have e2 : Addr.add ⟨b, o, none⟩ n = ad := by simpa using e
        rw [Addr.add_mid] at e2
        subst e2
        exact ⟨rfl, (h.low _ rfl).2⟩

/-- A reader that Read made, in block p. -/
structure IsR (w : World) (p : Nat) (s : M.St) : Prop where
  box : ∃ a cap, w.heap[p]? = some (.cells #[.bool true, .int .i64 (s.e : Int), .slice a s.l.length cap] 74 (0, 0)) ∧ Lies w p a s.l cap
  good : s.e ≠ 0 → s.l = []
  len : s.l.length ≤ 1000000
  err : s.e ≤ 100
/-- A reader, whatever it is. -/
def RD (w : World) (v : Value) (s : M.St) : Prop :=
  (v = .pointer none ∧ s = ⟨1, []⟩) ∨ (∃ p, v = .pointer (some ⟨p, 0, none⟩) ∧ w.heap[p]? = some (.cells #[.bool false, .int .i64 0, .slice none 0 0] 74 (0, 0)) ∧ s = ⟨1, []⟩) ∨ (∃ p, v = .pointer (some ⟨p, 0, none⟩) ∧ IsR w p s)
/-- The reference's reader, in block p. -/
structure IsS (w : World) (p : Nat) (s : M.St) : Prop where
  box : ∃ a cap, w.heap[p]? = some (.cells #[.slice a s.l.length cap, .int .i64 (s.e : Int)] 53 (0, 0)) ∧ Lies w p a s.l cap
  good : s.e ≠ 0 → s.l = []
  len : s.l.length ≤ 1000000
  err : s.e ≤ 100
theorem RD.made {w : World} {v : Value} {s : M.St} (h : RD w v s) (h0 : s.e = 0) : ∃ p, v = .pointer (some ⟨p, 0, none⟩) ∧ IsR w p s := by
  rcases h with ⟨_, rfl⟩ | ⟨p, _, _, rfl⟩ | h
  · cases h0
  · cases h0
  · exact h
theorem RD.good {w : World} {v : Value} {s : M.St} (h : RD w v s) (h0 : s.e ≠ 0) : s.l = [] := by
  rcases h with ⟨_, rfl⟩ | ⟨p, _, _, rfl⟩ | ⟨p, _, h⟩
  · rfl
  · rfl
  · exact h.good h0
/-- What turns when a reader is called: its own block. -/
def Own1 (v : Value) (k : Nat) : Prop := v = .pointer (some ⟨k, 0, none⟩)
theorem IsR.set {w w' : World} {p : Nat} {s : M.St} {e : Nat} {l : List UInt8} {a : Option Addr} {cap : Nat} (h : IsR w p s) (hw : w' = w.setRow p #[.bool true, .int .i64 (e : Int), .slice a l.length cap]) (hL : Lies w p a l cap) (hg : e ≠ 0 → l = []) (hl : l.length ≤ 1000000) (he : e ≤ 100) :
    IsR w' p ⟨e, l⟩ ∧ Touch (Own1 (.pointer (some ⟨p, 0, none⟩))) w w' := by
  subst hw
  obtain ⟨a0, c0, hb, _⟩ := h.box
  have hT : Touch (fun k => k = p) w (w.setRow p #[.bool true, .int .i64 (e : Int), .slice a l.length cap]) := Touch.setRow (T := fun k => k = p) (Touch.refl _ w) (fun _ => rfl) _
  exact ⟨⟨⟨a, cap, setRow_heap w p _ _ 74 _ hb, hL.touch hT (Nat.le_refl _)⟩, hg, hl, he⟩, hT.mono (fun i _ e => by subst e; rfl)⟩
theorem IsS.set {w w' : World} {p : Nat} {s : M.St} {e : Nat} {l : List UInt8} {a : Option Addr} {cap : Nat} (h : IsS w p s) (hw : w' = w.setRow p #[.slice a l.length cap, .int .i64 (e : Int)]) (hL : Lies w p a l cap) (hg : e ≠ 0 → l = []) (hl : l.length ≤ 1000000) (he : e ≤ 100) :
    IsS w' p ⟨e, l⟩ ∧ Touch (Own1 (.pointer (some ⟨p, 0, none⟩))) w w' := by
  subst hw
  obtain ⟨a0, c0, hb, _⟩ := h.box
  have hT : Touch (fun k => k = p) w (w.setRow p #[.slice a l.length cap, .int .i64 (e : Int)]) := Touch.setRow (T := fun k => k = p) (Touch.refl _ w) (fun _ => rfl) _
  exact ⟨⟨⟨a, cap, setRow_heap w p _ _ 53 _ hb, hL.touch hT (Nat.le_refl _)⟩, hg, hl, he⟩, hT.mono (fun i _ e => by subst e; rfl)⟩
end Go.Proofs.YtahbggdidhmnfaaDoor
