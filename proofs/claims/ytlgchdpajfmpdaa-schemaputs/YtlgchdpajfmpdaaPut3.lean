/- PutFixed, PutFloat. -/
import Derived.Test.YtlgchdpajfmpdaaPut2
namespace Go.Proofs.Ytlgchdpajfmpdaa
open Go.RowKit

namespace M
theorem fix_head (k : Nat) : ∀ n, fix n (k + 1) = UInt8.ofNat (n / 256 ^ k % 256) :: fix n k := by
  induction k with
  | zero => intro n; simp [fix]
  | succ k ih =>
    intro n
    rw [fix, ih (n / 256), fix, List.cons_append, Nat.div_div_eq_div_mul, ← Nat.pow_succ']
/-- Eight bytes, of which k are laid. -/
def row (n k : Nat) : List UInt8 := List.replicate (8 - k) 0 ++ fix n k
theorem len_row (n k : Nat) (h : k ≤ 8) : (row n k).length = 8 := by rw [row, List.length_append, List.length_replicate, len_fix]; omega
theorem row_set (n k : Nat) (h : k < 8) : (row n k).set (7 - k) (UInt8.ofNat (n / 256 ^ k % 256)) = row n (k + 1) := by
  rw [row, row, fix_head, show 8 - k = (7 - k) + 1 by omega, show 8 - (k + 1) = 7 - k by omega, List.replicate_succ', List.append_assoc]
  rw [List.set_append_right _ _ (by simp)]
  simp
end M
theorem S_set (bs : List UInt8) (j : Nat) (c : UInt8) : (S bs).toArray.setIfInBounds j (.int .u8 (c.toNat : Int)) = (S (bs.set j c)).toArray := by
  rw [List.setIfInBounds_toArray, S, S, List.map_set]
  rfl
theorem byte_shift (n k : Nat) : (n : Int) / 2 ^ (8 * k) % 256 = ((UInt8.ofNat (n / 256 ^ k % 256)).toNat : Int) := by
  rw [M.ofNat_toNat _ (by omega), show 256 ^ k = 2 ^ (8 * k) by rw [Nat.pow_mul]]
  simp
theorem M.fix_drop (n q d : Nat) : (M.fix n (q + d)).drop d = M.fix n q := by
  induction d with
  | zero => rfl
  | succ d ih => rw [show q + (d + 1) = (q + d) + 1 by omega, M.fix_head, List.drop_succ_cons]; exact ih
end Go.Proofs.Ytlgchdpajfmpdaa
