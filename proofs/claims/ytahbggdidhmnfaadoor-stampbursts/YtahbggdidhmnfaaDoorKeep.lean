/- What a reader's calls leave as it was. -/
import Derived.Test.YtahbggdidhmnfaaDoorPut3
namespace Go.Proofs.YtahbggdidhmnfaaDoor
open Go.RowKit

/-- A block without bytes. -/
def Cold (w : World) (k : Nat) : Prop := ∀ j c, w.cell? ⟨k, j, none⟩ ≠ some (.int .u8 c)
theorem At.cold {w w' : World} {T : Nat → Prop} {a : Option Addr} {l : List UInt8} (h : At w a l) (hT : Touch T w w') (hc : ∀ k, T k → Cold w k) : At w' a l := by
  intro j c hj
  obtain ⟨b, o, rfl, hcell⟩ := h j c hj
  refine ⟨b, o, rfl, ?_⟩
  rw [World.cell?_of_block (w := w) (hT.block b (World.block_lt_of_cell? w _ hcell) (fun ht => hc b ht _ _ hcell))]
  exact hcell
theorem Lies.cold {w w' : World} {T : Nat → Prop} {p : Nat} {a : Option Addr} {l : List UInt8} {cap : Nat} (h : Lies w p a l cap) (hT : Touch T w w') (hc : ∀ k, T k → Cold w k) : Lies w' p a l cap :=
  ⟨h.at_.cold hT hc, h.room, h.non, h.low⟩
theorem cold_three {w : World} {k : Nat} {x : Bool} {y : Int} {a : Option Addr} {n cap : Nat} {t : TypeId} {fr : Nat × Nat} (h : w.heap[k]? = some (.cells #[.bool x, .int .i64 y, .slice a n cap] t fr)) : Cold w k := by
  intro j c
  rw [cellOf h j]
  match j with
  | 0 => simp
  | 1 => simp
  | 2 => simp
  | j + 3 => simp
theorem cold_two {w : World} {k : Nat} {y : Int} {a : Option Addr} {n cap : Nat} {t : TypeId} {fr : Nat × Nat} (h : w.heap[k]? = some (.cells #[.slice a n cap, .int .i64 y] t fr)) : Cold w k := by
  intro j c
  rw [cellOf h j]
  match j with
  | 0 => simp
  | 1 => simp
  | j + 2 => simp
theorem RD.cold {w : World} {v : Value} {s : M.St} (h : RD w v s) : ∀ k, Own1 v k → Cold w k := by
  intro k hk
  rcases h with ⟨rfl, _⟩ | ⟨p, rfl, hb, _⟩ | ⟨p, rfl, hR⟩
  · cases hk
  · obtain rfl : p = k := by simpa [Own1] using hk
    exact cold_three hb
  · obtain rfl : p = k := by simpa [Own1] using hk
    obtain ⟨a, cap, hb, _⟩ := hR.box
    exact cold_three hb
theorem IsS.cold {w : World} {p : Nat} {s : M.St} (h : IsS w p s) : ∀ k, Own1 (.pointer (some ⟨p, 0, none⟩)) k → Cold w k := by
  intro k hk
  obtain rfl : p = k := by simpa [Own1] using hk
  obtain ⟨a, cap, hb, _⟩ := h.box
  exact cold_two hb
theorem lt_of_heap {w : World} {p : Nat} {o : Obj} (h : w.heap[p]? = some o) : p < w.heap.size := by
  rcases Nat.lt_or_ge p w.heap.size with h1 | h1
  · exact h1
  · rw [Array.getElem?_eq_none h1] at h; cases h
theorem RD.lt {w : World} {p : Nat} {s : M.St} (h : RD w (.pointer (some ⟨p, 0, none⟩)) s) : p < w.heap.size := by
  rcases h with ⟨e, _⟩ | ⟨q, e, hb, _⟩ | ⟨q, e, hR⟩
  · cases e
  · obtain rfl : p = q := by simpa using e
    exact lt_of_heap hb
  · obtain rfl : p = q := by simpa using e
    obtain ⟨a, cap, hb, _⟩ := hR.box
    exact lt_of_heap hb
theorem IsS.lt {w : World} {p : Nat} {s : M.St} (h : IsS w p s) : p < w.heap.size := by
  obtain ⟨a, cap, hb, _⟩ := h.box
  exact lt_of_heap hb
theorem RD.keep {w w' : World} {T : Nat → Prop} {v : Value} {s : M.St} (h : RD w v s) (hT : Touch T w w') (hc : ∀ k, T k → Cold w k) (hn : ∀ k, Own1 v k → ¬ T k) : RD w' v s := by
  rcases h with h | ⟨p, rfl, hb, hs⟩ | ⟨p, rfl, hR⟩
  · exact .inl h
  · exact .inr (.inl ⟨p, rfl, by rw [hT.block p (lt_of_heap hb) (hn p rfl)]; exact hb, hs⟩)
  · obtain ⟨a, cap, hb, hL⟩ := hR.box
    exact .inr (.inr ⟨p, rfl, ⟨⟨a, cap, by rw [hT.block p (lt_of_heap hb) (hn p rfl)]; exact hb, hL.cold hT hc⟩, hR.good, hR.len, hR.err⟩⟩)
theorem IsS.keep {w w' : World} {T : Nat → Prop} {p : Nat} {s : M.St} (h : IsS w p s) (hT : Touch T w w') (hc : ∀ k, T k → Cold w k) (hn : ¬ T p) : IsS w' p s := by
  obtain ⟨a, cap, hb, hL⟩ := h.box
  exact ⟨⟨a, cap, by rw [hT.block p (lt_of_heap hb) hn]; exact hb, hL.cold hT hc⟩, h.good, h.len, h.err⟩
theorem RD.adds {w w' : World} {v : Value} {s : M.St} (h : RD w v s) (hA : Adds w w') : RD w' v s := h.keep hA (fun _ h => h.elim) (fun _ _ => id)
theorem IsS.adds {w w' : World} {p : Nat} {s : M.St} (h : IsS w p s) (hA : Adds w w') : IsS w' p s := h.keep hA (fun _ h => h.elim) id
/-- Another reader than the one that was called. -/
theorem RD.other {w w' : World} {p q : Nat} {s : M.St} {u : M.St} (h : RD w (.pointer (some ⟨p, 0, none⟩)) s) (hq : RD w (.pointer (some ⟨q, 0, none⟩)) u) (hT : Touch (Own1 (.pointer (some ⟨q, 0, none⟩))) w w') (hne : p ≠ q) : RD w' (.pointer (some ⟨p, 0, none⟩)) s :=
  h.keep hT hq.cold (fun k hk hk2 => hne (by simp only [Own1, Value.pointer.injEq, Option.some.injEq, Addr.mk.injEq] at hk hk2; omega))
/-- A new block was turned alone. -/
theorem Adds.own {w w1 w2 : World} {p : Nat} (h : Adds w w1) (hT : Touch (Own1 (.pointer (some ⟨p, 0, none⟩))) w1 w2) (hp : w.heap.size ≤ p) : Adds w w2 :=
  h.then hT (fun i hi e => by simp only [Own1, Value.pointer.injEq, Option.some.injEq, Addr.mk.injEq] at e; omega)
end Go.Proofs.YtahbggdidhmnfaaDoor
