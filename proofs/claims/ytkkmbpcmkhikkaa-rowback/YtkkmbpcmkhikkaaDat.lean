/- A block that is sorted in place; what compares. -/
import Derived.Test.YtkkmbpcmkhikkaaCompare
namespace Go.Proofs.Ytkkmbpcmkhikkaa
open Go.RowKit

theorem Touch.drewN {T : Nat → Prop} {a w : World} (h : Touch T a w) : ∀ n, Touch T a (w.drewN n)
  | 0 => h
  | _ + 1 => ⟨h.os, h.tape, h.output, h.size, h.block⟩
/-- Only block g turns. -/
abbrev Only (g : Nat) (w w' : World) : Prop := Touch (fun k => k = g) w w'
theorem Adds.only {g : Nat} {w w' : World} (h : Adds w w') : Only g w w' := h.mono (fun _ _ c => c.elim)
theorem VAt.only {g : Nat} {w w' : World} {a : Option Addr} {r : List M.V} (h : VAt w a r) (hT : Only g w w') (hg : r ≠ [] → ∀ b o, a = some ⟨b, o, none⟩ → b ≠ g) : VAt w' a r := by
  by_cases e : r = []
  · subst e; exact VAt.nil _ _
  · exact h.block (fun b o ea hb => hT.block b hb (hg e b o ea))
theorem IsRow.only {g : Nat} {w w' : World} {x : Hd} (h : IsRow w x) (hT : Only g w w') (hg : x.r ≠ [] → ∀ b o, x.a = some ⟨b, o, none⟩ → b ≠ g) : IsRow w' x := ⟨h.at_.only hT hg, h.len, h.non⟩

/-- A list of rows in a block of its own. -/
structure Dat (w : World) (g : Nat) (l : List Hd) : Prop where
  cell : ∀ i, i < l.length → w.cell? ⟨g, i, none⟩ = some (.slice l[i]!.a l[i]!.r.length l[i]!.cap)
  fro : ∀ i, i < l.length → w.frozen? ⟨g, i, none⟩ = false
  rows : ∀ x ∈ l, IsRow w x
  off : ∀ x ∈ l, x.r ≠ [] → ∀ b o, x.a = some ⟨b, o, none⟩ → b ≠ g
theorem get_mem {l : List Hd} {i : Nat} (h : i < l.length) : l[i]! ∈ l := by rw [getElem!_pos l i h]; exact List.getElem_mem h
theorem Dat.low {w : World} {g : Nat} {l : List Hd} (h : Dat w g l) (hl : 0 < l.length) : g < w.heap.size := World.block_lt_of_cell? w _ (h.cell 0 hl)
theorem Dat.adds {w w' : World} {g : Nat} {l : List Hd} (h : Dat w g l) (hA : Adds w w') : Dat w' g l :=
  ⟨fun i hi => by
    have e := hA.block g (World.block_lt_of_cell? w _ (h.cell i hi)) id
    rw [World.cell?_of_block (w := w) e]; exact h.cell i hi, fun i hi => by
    have e := hA.block g (World.block_lt_of_cell? w _ (h.cell i hi)) id
    rw [World.frozen?_of_block (w := w) e]; exact h.fro i hi, fun x hx => (h.rows x hx).adds hA, h.off⟩
theorem Dat.row {w : World} {g : Nat} {l : List Hd} {i : Nat} (h : Dat w g l) (hi : i < l.length) : IsRow w l[i]! := h.rows _ (get_mem hi)
theorem cell_same {w : World} {p : Addr} {u : Value} (v : Value) (h : w.cell? p = some u) : (w.setCell p v).cell? p = some v := World.cell?_setCell_same _ _ _ h
theorem cell_other {w : World} {g i k : Nat} (v : Value) (h : k ≠ i) : (w.setCell ⟨g, i, none⟩ v).cell? ⟨g, k, none⟩ = w.cell? ⟨g, k, none⟩ := World.cell?_setCell_other _ _ _ _ (by intro e; apply h; injection e with _ e3; omega)
theorem Dat.swap {w : World} {g i j : Nat} {l : List Hd} (h : Dat w g l) (hi : i < l.length) (hj : j < l.length) {x y : Value} (hx : x = .slice l[i]!.a l[i]!.r.length l[i]!.cap) (hy : y = .slice l[j]!.a l[j]!.r.length l[j]!.cap) :
    Dat ((w.setCell ⟨g, i, none⟩ y).setCell ⟨g, j, none⟩ x) g (M.swp l i j) ∧ Only g w ((w.setCell ⟨g, i, none⟩ y).setCell ⟨g, j, none⟩ x) := by
  have hT : Only g w ((w.setCell ⟨g, i, none⟩ y).setCell ⟨g, j, none⟩ x) :=
    ((Touch.refl (fun k => k = g) w).setCell (p := ⟨g, i, none⟩) (fun _ => rfl) _).setCell (p := ⟨g, j, none⟩) (fun _ => rfl) _
  refine ⟨⟨?_, ?_, ?_, ?_⟩, hT⟩
  · intro k hk
    rw [M.len_swp] at hk
    rw [M.get_swp l hi hj]
    by_cases e1 : k = j
    · subst e1
      rw [if_pos rfl, ← hx]
      by_cases e2 : k = i
      · subst e2; exact cell_same _ (cell_same _ (h.cell k hi))
      · exact cell_same _ ((cell_other _ e2).trans (h.cell k hj))
    · rw [if_neg e1, cell_other _ e1]
      by_cases e2 : k = i
      · subst e2; rw [if_pos rfl, ← hy]; exact cell_same _ (h.cell k hi)
      · rw [if_neg e2, cell_other _ e2]; exact h.cell k hk
  · intro k hk
    rw [M.len_swp] at hk
    simp only [World.frozen?_setCell]
    exact h.fro k hk
  · intro z hz
    have hz := (M.perm_swp l hi hj).mem_iff.1 hz
    exact (h.rows z hz).only hT (h.off z hz)
  · intro z hz
    exact h.off z ((M.perm_swp l hi hj).mem_iff.1 hz)
theorem Dat.drewN {w : World} {g : Nat} {l : List Hd} (h : Dat w g l) (n : Nat) : Dat (w.drewN n) g l := h.adds ((Touch.refl _ w).drewN n)
theorem Dat.drew {w : World} {g : Nat} {l : List Hd} (h : Dat w g l) : Dat w.drew g l := h.adds ((Touch.refl _ w).drew)

/-- What compares two rows, whatever is in block g. -/
structure Cmps (q : Nat) (cb : Array Value) (cf : List M.V → List M.V → Int) (g : Nat) (w : World) : Prop where
  run : ∀ w', Only g w w' → ∀ x y, IsRow w' x → IsRow w' y → Calls Try.prog q (#[.slice x.a x.r.length x.cap, .slice y.a y.r.length y.cap] ++ cb) w' (Tells w' (.int .i64 (cf x.r y.r)))
  ent : ∀ args w, (callFunc q args).run Try.prog w = .ok (.enter q args) w
theorem Cmps.only {q : Nat} {cb : Array Value} {cf : List M.V → List M.V → Int} {g : Nat} {w w' : World} (h : Cmps q cb cf g w) (hT : Only g w w') : Cmps q cb cf g w' := ⟨fun w2 h2 => h.run w2 (hT.trans h2), h.ent⟩
/-- Less, by what compares. -/
def ltc (cf : List M.V → List M.V → Int) (x y : Hd) : Bool := decide (cf x.r y.r < 0)
/-- What a call that sorts a part leaves. -/
def PSort (w : World) (g : Nat) (cf : List M.V → List M.V → Int) (a b : Nat) (l : List Hd) (e : Ending) (w' : World) : Prop :=
  e = .returned (.tuple #[]) ∧ Hid (∃ m, M.Mrg (ltc cf) a b l m ∧ Dat w' g m ∧ Only g w w')
end Go.Proofs.Ytkkmbpcmkhikkaa
