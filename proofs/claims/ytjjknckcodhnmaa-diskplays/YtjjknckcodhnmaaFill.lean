/- filled: a slice of 256 bytes of one kind, in new memory. -/
import Derived.Test.YtjjknckcodhnmaaLeaf
namespace Go.Proofs.Ytjjknckcodhnmaa
open Go.RowKit

theorem make256 (w : World) : (Instr.makeSlice 36 (.int .i64 256) (.int .i64 256)).run Try.prog w = .ok (.slice (some ⟨w.heap.size, 0, none⟩) 256 256) (w.alloc (.cells (S zeros).toArray 5)) := by kernel_rfl

/-- k bytes c, then bytes 0. -/
def part_filled (n : Nat) (c : UInt8) (k : Nat) : List UInt8 := List.replicate k c ++ List.replicate (n - k) 0
theorem part_zero (n : Nat) (c : UInt8) : part_filled n c 0 = List.replicate n 0 := rfl
theorem part_full (n : Nat) (c : UInt8) : part_filled n c n = List.replicate n c := by simp [part_filled]
theorem part_step (n : Nat) (c : UInt8) (k : Nat) (h : k < n) : (S (part_filled n c k)).toArray.setIfInBounds k (B8 c) = (S (part_filled n c (k + 1))).toArray := by
  rw [List.setIfInBounds_toArray]
  congr 1
  simp only [S, part_filled]
  rw [show n - k = (n - (k + 1)) + 1 by omega, List.replicate_succ, List.map_append, List.map_append, List.map_cons, List.replicate_succ', List.map_append, List.append_assoc]
  rw [List.set_append_right _ _ (by simp)]
  simp
theorem part_len (n : Nat) (c : UInt8) (k : Nat) (h : k ≤ n) : (S (part_filled n c k)).toArray.size = n := by simp [S, part_filled]; omega

/-- A sector of one byte. -/
def sec (c : UInt8) : List UInt8 := List.replicate 256 c
/-- A block of bytes. -/
def Bytes (w : World) (g : Nat) (bs : List UInt8) : Prop := w.heap[g]? = some (.cells (S bs).toArray 5 (0, 0))

set_option maxRecDepth 100000 in
set_option maxHeartbeats 1000000 in
theorem filled_any (c : UInt8) (w : World) : Calls Try.prog 27 #[.int .u8 (c.toNat : Int)] w fun e w' => ∃ g, e = .returned (.slice (some ⟨g, 0, none⟩) 256 256) ∧ w.heap.size ≤ g ∧ Bytes w' g (sec c) ∧ Adds w w' := by
  have hmk := make256
  go_enter Try.func27, Try.ntmps27
  go_wp2
  go_loopw [8] (fun i wr => ∃ k : Nat, k ≤ 256 ∧ i = .int .i64 k ∧ Bytes wr w.heap.size (part_filled 256 c k) ∧ Adds w wr) (fun i _ => 256 - (intOf i).toNat)
  case atStart => exact ⟨0, by omega, rfl, heap_alloc_new w _, (Touch.refl _ w).alloc _⟩
  case round =>
    obtain ⟨k, hk, rfl, hB, hA⟩ := hrel
    by_cases hlt : k < 256
    · clear hmk
      obtain ⟨x, hc⟩ : ∃ x, wr.cell? ⟨w.heap.size, k, none⟩ = some x := by
        refine ⟨_, (cellOf hB k).trans (Array.getElem?_eq_getElem (i := k) ?_)⟩
        rw [part_len 256 c k hk]; exact hlt
      have hf : wr.frozen? ⟨w.heap.size, k, none⟩ = false := frozen_of_row wr _ _ _ 5 hB
      go_wp2
      go_roundw
      case rel =>
        refine ⟨k + 1, by omega, by go_num, ?_, hA.setCell (fun h => absurd h (Nat.lt_irrefl _)) _⟩
        show _ = _
        rw [heap_setCell_same wr _ k _ 5 _ hB]
        show some (Obj.cells ((S (part_filled 256 c k)).toArray.setIfInBounds k (B8 c)) 5 (0, 0)) = _
        rw [part_step 256 c k hlt]
      case measure => simp [intOf]; omega
    · obtain rfl : k = 256 := by omega
      go_wp2
      go_ret
      exact ⟨w.heap.size, rfl, Nat.le_refl _, by rw [sec, ← part_full]; exact hB, hA⟩

end Go.Proofs.Ytjjknckcodhnmaa
