/- The page that an act puts. -/
import Derived.Test.YtjlennpoaefllaaGreatDoorQ40
import Derived.Test.YtjlennpoaefllaaGreatDoorQ22
namespace Go.Proofs.YtjlennpoaefllaaGreatDoor
open Go.RowKit
set_option maxRecDepth 100000 in
theorem gq_cell {w : World} {fa : Option Addr} {fm fc : Nat} {bs : List UInt8} (hl : bs.length = fm) (h : At w fa bs) (hz : fa = none → fc = 0) : GQ (w.alloc (.cells #[.slice fa fm fc] 43)) (fun _ => True) ⟨some ⟨w.heap.size, 0, none⟩, 1, [⟨fa, bs, fc⟩]⟩ := by
  refine ⟨fun j u hj => ⟨_, _, rfl, trivial, ?_⟩, fun e => (by cases e), fun x hx => ?_⟩
  · match j, hj with
    | 0, hj =>
      obtain rfl : Value.slice fa bs.length fc = u := Option.some.inj hj
      rw [hl, cellOf (heap_alloc_new w _)]
      rfl
  · obtain rfl := List.mem_singleton.1 hx
    refine ⟨fun j u hj => ?_, fun e => ?_⟩
    · have hj2 : (bs.map B8)[j]? = some u := hj
      rw [List.getElem?_map] at hj2
      obtain ⟨c, hc, rfl⟩ := Option.map_eq_some_iff.1 hj2
      obtain ⟨b, o, e, hcell⟩ := h j c hc
      exact ⟨b, o, e, trivial, below_adds ((Touch.refl _ w).alloc _) hcell⟩
    · exact hz e
theorem At.take {w : World} {a : Option Addr} {bs : List UInt8} (h : At w a bs) (n : Nat) : At w a (bs.take n) := fun j c hj => by
  rw [List.getElem?_take] at hj
  split at hj
  · exact h j c hj
  · cases hj
end Go.Proofs.YtjlennpoaefllaaGreatDoor
