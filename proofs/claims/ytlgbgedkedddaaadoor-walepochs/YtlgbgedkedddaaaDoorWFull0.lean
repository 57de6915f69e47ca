/- A group is taken just as long as its pieces have sectors. -/
import Derived.Test.YtlgbgedkedddaaaDoorWRef
namespace Go.Proofs.YtlgbgedkedddaaaDoor
open Go.RowKit

/-- Where numbers lie. -/
def NumsAt (w : World) (a : Option Addr) (n : Nat) : Prop := ∀ j, j < n → ∃ b o z, a = some ⟨b, o, none⟩ ∧ w.cell? ⟨b, o + j, none⟩ = some (.int .i64 z)
/-- A law's list of records: of no log, and new. -/
def Mine (w0 w : World) (OL OD : Nat → Prop) (g : Pl) : Prop := GQ w (fun k => w0.heap.size ≤ k ∧ ¬ (OL k ∨ OD k)) g
theorem Mine.next {w0 w w' : World} {OL OD OL' OD' : Nat → Prop} {g : Pl} (h : Mine w0 w OL OD g) (hT : Touch (fun k => OL k ∨ OD k) w w') (hn : ∀ k, OL' k ∨ OD' k → (OL k ∨ OD k) ∨ w.heap.size ≤ k) : Mine w0 w' OL' OD' g :=
  (h.mono (Q' := fun k => (w0.heap.size ≤ k ∧ ¬ (OL k ∨ OD k)) ∧ ¬ (OL' k ∨ OD' k)) (fun k hk q => ⟨q, fun c => by rcases hn k c with c | c; exact q.2 c; omega⟩)).touch hT (fun k q => q.1.2) |>.mono (fun k _ q => ⟨q.1.1, q.2⟩)
theorem Mine.adds {w0 w w' : World} {OL OD : Nat → Prop} {g : Pl} (h : Mine w0 w OL OD g) (hA : Adds w w') : Mine w0 w' OL OD g := GQ.adds h hA
/-- New memory is of no log. -/
theorem Fresh.mine {w0 w w' : World} {OL OD : Nat → Prop} {l p : Nat} {L : LS} {D : dSt} {a : Option Addr} {c : Nat} {hs : List Part} (hW : Wl w0 w OL OD l p L D) (h : GQ w' (fun k => w.heap.size ≤ k) ⟨a, c, hs⟩) : Mine w0 w' OL OD ⟨a, c, hs⟩ :=
  GQ.mono h (fun k _ q => ⟨Nat.le_trans hW.adds.size q, fun c => by have := hW.lt k c; omega⟩)
set_option maxRecDepth 100000 in
theorem part_mine {w0 w w' : World} {OL OD : Nat → Prop} {l p : Nat} {L : LS} {D : dSt} {bs : List UInt8} (hW : Wl w0 w OL OD l p L D) (h : w'.heap[w.heap.size]? = some (.cells (S bs).toArray 5 (0, 0)) ∧ Adds w w') : PQ w' (fun k => w0.heap.size ≤ k ∧ ¬ (OL k ∨ OD k)) ⟨some ⟨w.heap.size, 0, none⟩, bs, bs.length⟩ := by
  refine ⟨fun j u hj => ⟨w.heap.size, 0, rfl, ⟨hW.adds.size, fun c => by have := hW.lt _ c; omega⟩, ?_⟩, fun e => by cases e⟩
  rw [cellOf h.1, Nat.zero_add]
  simpa using hj
set_option maxRecDepth 100000 in
theorem len_bodyN (z : Int) (c : UInt8) : (bodyB c (bodyN z)).length < 700 := by rw [len_body]; unfold bodyN; omega
set_option maxRecDepth 100000 in
/-- What a list of records has been grown by one. -/
theorem grown_one {w0 w w1 w2 : World} {OL OD : Nat → Prop} {g : Pl} {x : Part} {v : Value} (hg : Mine w0 w OL OD g) (hx : PQ w (fun k => w0.heap.size ≤ k ∧ ¬ (OL k ∨ OD k)) x) (hA : Adds w w1) (hv : w1.ownsRow 0 22 1 v (g.l.length + 1) (g.l.map PV ++ [PV x])) (hn : ∀ k, v.ownBlock = some k → w0.heap.size ≤ k ∧ ¬ (OL k ∨ OD k)) (h2 : w2 = w1) : ∃ a c, v = .slice a (g.l.length + 1) c ∧ Mine w0 w2 OL OD ⟨a, c, g.l ++ [x]⟩ := by
  subst h2
  obtain ⟨a, c, e, _, hac, hq⟩ := own_cq hv
  refine ⟨a, c, e, ⟨by rw [List.map_append]; exact hq.mono (fun k _ q => hn k q), hac, fun y hy => ?_⟩⟩
  rcases List.mem_append.1 hy with hy | hy
  · exact (hg.all y hy).adds hA
  · obtain rfl := List.mem_singleton.1 hy
    exact hx.adds hA
end Go.Proofs.YtlgbgedkedddaaaDoor
