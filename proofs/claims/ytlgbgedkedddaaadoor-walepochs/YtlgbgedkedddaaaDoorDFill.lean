/- filled: a slice of 256 bytes of one kind, in new memory. -/
import Derived.Test.YtlgbgedkedddaaaDoorDLeaf
namespace Go.Proofs.YtlgbgedkedddaaaDoor
open Go.RowKit

set_option maxRecDepth 100000 in
theorem make256 (w : World) : (Instr.makeSlice 22 (.int .i64 256) (.int .i64 256)).run Tryd.prog w = .ok (.slice (some ⟨w.heap.size, 0, none⟩) 256 256) (w.alloc (.cells (S zeros).toArray 5)) := by kernel_rfl

/-- k bytes c, then bytes 0. -/
def part_filled (n : Nat) (c : UInt8) (k : Nat) : List UInt8 := List.replicate k c ++ List.replicate (n - k) 0
theorem part_zero (n : Nat) (c : UInt8) : part_filled n c 0 = List.replicate n 0 := rfl
set_option maxRecDepth 100000 in
theorem part_full (n : Nat) (c : UInt8) : part_filled n c n = List.replicate n c := by simp [part_filled]
set_option maxRecDepth 100000 in
theorem part_step (n : Nat) (c : UInt8) (k : Nat) (h : k < n) : (S (part_filled n c k)).toArray.setIfInBounds k (B8 c) = (S (part_filled n c (k + 1))).toArray := by
  rw [List.setIfInBounds_toArray]
  congr 1
  simp only [S, part_filled]
  rw [show n - k = (n - (k + 1)) + 1 by omega, List.replicate_succ, List.map_append, List.map_append, List.map_cons, List.replicate_succ', List.map_append, List.append_assoc]
  rw [List.set_append_right _ _ (by simp)]
  simp
set_option maxRecDepth 100000 in
theorem part_len (n : Nat) (c : UInt8) (k : Nat) (h : k ≤ n) : (S (part_filled n c k)).toArray.size = n := by simp [S, part_filled]; omega

/-- A sector of one byte. -/
def sec (c : UInt8) : List UInt8 := List.replicate 256 c
/-- A block of bytes. -/
def dBytes (w : World) (g : Nat) (bs : List UInt8) : Prop := w.heap[g]? = some (.cells (S bs).toArray 5 (0, 0))

end Go.Proofs.YtlgbgedkedddaaaDoor
