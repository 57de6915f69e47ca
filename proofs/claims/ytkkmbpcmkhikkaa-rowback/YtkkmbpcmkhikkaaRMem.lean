/- Rows: where they lie, and how they are compared, by definition. -/
import Derived.Test.YtkkmbpcmkhikkaaTakeV
import Derived.Test.YtkkmbpcmkhikkaaSMath
namespace Go.Proofs.Ytkkmbpcmkhikkaa
open Go.RowKit

/-- Where a row's values lie. -/
def VAt (w : World) (a : Option Addr) (r : List M.V) : Prop := ∀ (j : Nat) (v : M.V), r[j]? = some v → ∃ b o, a = some ⟨b, o, none⟩ ∧
  w.cell? ⟨b, o + j * 4, none⟩ = some (.int .i64 v.k) ∧ w.cell? ⟨b, o + j * 4 + 1, none⟩ = some (.int .i64 v.n) ∧ w.cell? ⟨b, o + j * 4 + 2, none⟩ = some (.float .f64 v.b) ∧ w.cell? ⟨b, o + j * 4 + 3, none⟩ = some (.string ⟨v.t.toArray⟩)
theorem VAt.nil (w : World) (a : Option Addr) : VAt w a [] := by intro j c h; simp at h
theorem VAt.block {w w' : World} {a : Option Addr} {r : List M.V} (h : VAt w a r) (hb : ∀ b o, a = some ⟨b, o, none⟩ → b < w.heap.size → w'.heap[b]? = w.heap[b]?) : VAt w' a r := by
  intro j c hj
  obtain ⟨b, o, rfl, h0, h1, h2, h3⟩ := h j c hj
  have e := hb b o rfl (World.block_lt_of_cell? w _ h0)
  exact ⟨b, o, rfl, by rw [World.cell?_of_block (w := w) e]; exact h0, by rw [World.cell?_of_block (w := w) e]; exact h1, by rw [World.cell?_of_block (w := w) e]; exact h2, by rw [World.cell?_of_block (w := w) e]; exact h3⟩
theorem VAt.adds {w w' : World} {a : Option Addr} {r : List M.V} (h : VAt w a r) (hA : Adds w w') : VAt w' a r := h.block (fun b _ _ hb => hA.block b hb id)
/-- One value of a row, also from there on. -/
theorem VAt.get {w : World} {a : Option Addr} {r : List M.V} {i : Nat} {v : M.V} (h : VAt w a r) (hi : r[i]? = some v) : ∃ b o, a = some ⟨b, o, none⟩ ∧ ∀ w', Adds w w' →
    w'.cell? ⟨b, o + i * 4, none⟩ = some (.int .i64 v.k) ∧ w'.cell? ⟨b, o + i * 4 + 1, none⟩ = some (.int .i64 v.n) ∧ w'.cell? ⟨b, o + i * 4 + 2, none⟩ = some (.float .f64 v.b) ∧ w'.cell? ⟨b, o + i * 4 + 3, none⟩ = some (.string ⟨v.t.toArray⟩) := by
  obtain ⟨b, o, e, _⟩ := h i v hi
  refine ⟨b, o, e, fun w' hA => ?_⟩
  obtain ⟨b', o', e', h2⟩ := (h.adds hA) i v hi
  rw [e] at e'
  obtain ⟨rfl, rfl⟩ : b = b' ∧ o = o' := by simpa using e'
  exact h2

/-- A row as the program has it: a slice of values: where they lie, its room, they. -/
abbrev Hd : Type := Option Addr × Nat × List M.V
abbrev Hd.a (x : Hd) : Option Addr := x.1
abbrev Hd.cap (x : Hd) : Nat := x.2.1
abbrev Hd.r (x : Hd) : List M.V := x.2.2
abbrev Hd.v (x : Hd) : Value := .slice x.a x.r.length x.cap
/-- Where a list of rows lies. -/
def HAt (w : World) (a : Option Addr) (l : List Hd) : Prop := ∀ (j : Nat) (x : Hd), l[j]? = some x → ∃ b o, a = some ⟨b, o, none⟩ ∧ w.cell? ⟨b, o + j, none⟩ = some (.slice x.a x.r.length x.cap)
theorem HAt.nil (w : World) (a : Option Addr) : HAt w a [] := by intro j c h; simp at h
theorem HAt.block {w w' : World} {a : Option Addr} {l : List Hd} (h : HAt w a l) (hb : ∀ b o, a = some ⟨b, o, none⟩ → b < w.heap.size → w'.heap[b]? = w.heap[b]?) : HAt w' a l := by
  intro j c hj
  obtain ⟨b, o, rfl, h0⟩ := h j c hj
  exact ⟨b, o, rfl, by rw [World.cell?_of_block (w := w) (hb b o rfl (World.block_lt_of_cell? w _ h0))]; exact h0⟩
theorem HAt.adds {w w' : World} {a : Option Addr} {l : List Hd} (h : HAt w a l) (hA : Adds w w') : HAt w' a l := h.block (fun b _ _ hb => hA.block b hb id)
theorem HAt.get {w : World} {a : Option Addr} {l : List Hd} {i : Nat} {x : Hd} (h : HAt w a l) (hi : l[i]? = some x) : ∃ b o, a = some ⟨b, o, none⟩ ∧ ∀ w', Adds w w' → w'.cell? ⟨b, o + i, none⟩ = some (.slice x.a x.r.length x.cap) := by
  obtain ⟨b, o, e, _⟩ := h i x hi
  refine ⟨b, o, e, fun w' hA => ?_⟩
  obtain ⟨b', o', e', h2⟩ := (h.adds hA) i x hi
  rw [e] at e'
  obtain ⟨rfl, rfl⟩ : b = b' ∧ o = o' := by simpa using e'
  exact h2
/-- A row, and its values where it says. -/
structure IsRow (w : World) (x : Hd) : Prop where
  at_ : VAt w x.a x.r
  len : x.r.length ≤ 1000000
  non : x.a = none → x.cap = 0
theorem IsRow.adds {w w' : World} {x : Hd} (h : IsRow w x) (hA : Adds w w') : IsRow w' x := ⟨h.at_.adds hA, h.len, h.non⟩

namespace M
/-- Lists compared place by place. -/
def lcmp {β : Type} (c : β → β → Int) : List β → List β → Int
  | [], [] => 0
  | [], _ :: _ => -1
  | _ :: _, [] => 1
  | x :: l, y :: m => if c x y = 0 then lcmp c l m else c x y
theorem lcmp_end {β : Type} (c : β → β → Int) : ∀ l m : List β, l = [] ∨ m = [] → lcmp c l m = cmp3 (l.length : Int) (m.length : Int)
  | [], [], _ => by simp [lcmp, cmp3]
  | [], y :: m, _ => by simp only [lcmp, cmp3, List.length_nil, List.length_cons]; rw [if_pos (by omega)]
  | x :: l, [], _ => by simp only [lcmp, cmp3, List.length_nil, List.length_cons]; rw [if_neg (by omega), if_pos (by omega)]
  | x :: l, y :: m, h => by simp at h
theorem cmp3_add (x y n : Int) : cmp3 (x + n) (y + n) = cmp3 x y := by
  unfold cmp3; split <;> split <;> (try split) <;> (try split) <;> omega
/-- At place i. -/
theorem lcmp_step {β : Type} (c : β → β → Int) {l m : List β} {i : Nat} {x y : β} (hx : l[i]? = some x) (hy : m[i]? = some y) : lcmp c (l.drop i) (m.drop i) = if c x y = 0 then lcmp c (l.drop (i + 1)) (m.drop (i + 1)) else c x y := by
  obtain ⟨h1, e1⟩ := List.getElem?_eq_some_iff.1 hx
  obtain ⟨h2, e2⟩ := List.getElem?_eq_some_iff.1 hy
  rw [List.drop_eq_getElem_cons h1, List.drop_eq_getElem_cons h2, e1, e2]; rfl
theorem lcmp_last {β : Type} (c : β → β → Int) {l m : List β} {i : Nat} (hi : i = l.length ∨ i = m.length) (h1 : i ≤ l.length) (h2 : i ≤ m.length) : lcmp c (l.drop i) (m.drop i) = cmp3 (l.length : Int) (m.length : Int) := by
  rw [lcmp_end c _ _ (by rcases hi with h | h <;> subst h <;> simp), ← cmp3_add _ _ (i : Int)]
  congr 1 <;> (simp only [List.length_drop]; omega)
/-- The order of rows. -/
def rcmp (r s : List V) : Int := lcmp cmp r s
end M
end Go.Proofs.Ytkkmbpcmkhikkaa
