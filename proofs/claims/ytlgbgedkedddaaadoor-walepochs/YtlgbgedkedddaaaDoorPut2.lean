/- PutText, PutFixed, PutFloat. -/
import Derived.Test.YtlgbgedkedddaaaDoorPut
namespace Go.Proofs.YtlgbgedkedddaaaDoor
open Go.RowKit

/-- A string's bytes, in new memory. -/
theorem str_bytes (bs : List UInt8) (w : World) : ∃ cap w1, (convert 9 22 (.string ⟨bs.toArray⟩)).run Tryd.prog w = .ok (.slice (some ⟨w.heap.size, 0, none⟩) bs.length cap) w1 ∧ At w1 (some ⟨w.heap.size, 0, none⟩) bs ∧ Adds w w1 := by
  refine ⟨_, _, run_bytes_of_string (P := Tryd.prog) w 9 22 5 ⟨bs.toArray⟩ Tryd.underlying9 Tryd.underlying22 Tryd.underlying5, ?_, (Touch.refl _ w).drew.alloc _⟩
  intro j c hj
  refine ⟨_, _, rfl, ?_⟩
  have hlt : j < bs.length := (List.getElem?_eq_some_iff.1 hj).1
  have hg : (w.drew.alloc (Obj.cells (bytesRow ⟨bs.toArray⟩ (grownCap w (ByteArray.size ⟨bs.toArray⟩) 0 5)) 5 ((bytesRow ⟨bs.toArray⟩ (grownCap w (ByteArray.size ⟨bs.toArray⟩) 0 5)).size, (bytesRow ⟨bs.toArray⟩ (grownCap w (ByteArray.size ⟨bs.toArray⟩) 0 5)).size + 1))).heap[w.heap.size]? = some _ := heap_alloc_new w.drew _
  rw [cell_of_row _ _ _ _ _ _ hg, Nat.zero_add, bytesRow_at _ _ j (by simpa using hlt)]
  rw [List.getElem?_eq_getElem hlt] at hj
  obtain rfl : bs[j] = c := by simpa using hj
  rfl
set_option maxHeartbeats 400000 in
theorem putText_any (a : Option Addr) (bs : List UInt8) (cap : Nat) (ts : List UInt8) (w : World) (hl : bs.length ≤ 1000000) (ht : ts.length ≤ 1000000) (hcap : a = none → cap = 0) (hA : At w a bs) : Calls Tryd.prog 28 #[.slice a bs.length cap, .string ⟨ts.toArray⟩] w (POwn w (bs ++ (M.enc ts.length ++ ts))) := by
  have H := hid (groups_any ts.length (by omega) w)
  have HL := hid (And.intro hl ht)
  have HA := hid (And.intro hA hcap)
  have h10 := M.len_enc10 (show ts.length < 18446744073709551616 by omega)
  clear hA hl hcap
  go_enter Tryd.func28, Tryd.ntmps28
  go_wp2_with (first
    | (go_at_call 46; refine H.out.mono ?_; rintro e w1 ⟨v1, rfl, h1, h2⟩; obtain ⟨a1, cap1, rfl, hL1⟩ := Own.lies h1; have HQ := hid (And.intro hL1 h2); obtain ⟨cap2, w2, hcv, hA2, hT2⟩ := str_bytes ts w1; have HY := hid (And.intro hA2 hT2); clear h1 h2 hL1 hA2 hT2)
    | (go_at_call 31; refine (concat_three (w := w2) ⟨a, bs, cap⟩ ⟨a1, M.enc ts.length, cap1⟩ ⟨some ⟨w1.heap.size, 0, none⟩, ts, cap2⟩ ((HA.out.1.adds HQ.out.2).adds HY.out.2) (HQ.out.1.at_.adds HY.out.2) HY.out.1 HA.out.2 HQ.out.1.non (fun e => by cases e) (by have := HL.out.1; have := HL.out.2; simp; omega)).mono ?_; rintro e w3 ⟨v2, rfl, h1, h2⟩; have HZ := hid (And.intro h1 h2); clear h1 h2))
  go_ret
  exact ⟨_, rfl, own_base HZ.out.1 (HQ.out.2.trans HY.out.2).size, (HQ.out.2.trans HY.out.2).trans HZ.out.2⟩
end Go.Proofs.YtlgbgedkedddaaaDoor
