/- PutText, PutFixed, PutFloat. -/
import Derived.Test.YtahbggdidhmnfaaDoorPut
namespace Go.Proofs.YtahbggdidhmnfaaDoor
open Go.RowKit

set_option maxRecDepth 100000 in
/-- A string's bytes, in new memory. -/
theorem str_bytes (bs : List UInt8) (w : World) : ∃ cap w1, (convert 9 23 (.string ⟨bs.toArray⟩)).run Tryd.prog w = .ok (.slice (some ⟨w.heap.size, 0, none⟩) bs.length cap) w1 ∧ At w1 (some ⟨w.heap.size, 0, none⟩) bs ∧ Adds w w1 := by
  refine ⟨_, _, run_bytes_of_string (P := Tryd.prog) w 9 23 5 ⟨bs.toArray⟩ Tryd.underlying9 Tryd.underlying23 Tryd.underlying5, ?_, (Touch.refl _ w).drew.alloc _⟩
  intro j c hj
  refine ⟨_, _, rfl, ?_⟩
  have hlt : j < bs.length := (List.getElem?_eq_some_iff.1 hj).1
  have hg : (w.drew.alloc (Obj.cells (bytesRow ⟨bs.toArray⟩ (grownCap w (ByteArray.size ⟨bs.toArray⟩) 0 5)) 5 ((bytesRow ⟨bs.toArray⟩ (grownCap w (ByteArray.size ⟨bs.toArray⟩) 0 5)).size, (bytesRow ⟨bs.toArray⟩ (grownCap w (ByteArray.size ⟨bs.toArray⟩) 0 5)).size + 1))).heap[w.heap.size]? = some _ := heap_alloc_new w.drew _
  rw [cell_of_row _ _ _ _ _ _ hg, Nat.zero_add, bytesRow_at _ _ j (by simpa using hlt)]
  rw [List.getElem?_eq_getElem hlt] at hj
  obtain rfl : bs[j] = c := by simpa using hj
  rfl
end Go.Proofs.YtahbggdidhmnfaaDoor
