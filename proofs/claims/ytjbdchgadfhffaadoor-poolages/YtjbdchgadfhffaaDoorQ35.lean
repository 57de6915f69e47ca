/- Writes that a disk takes, one behind the other. -/
import Derived.Test.YtjbdchgadfhffaaDoorQ23
namespace Go.Proofs.YtjbdchgadfhffaaDoor

/-- k writes, from number i on. -/
def wroteN (D : dSt) (f : Nat → Int × List UInt8) (i : Nat) : Nat → dSt
  | 0 => D
  | k + 1 => (wroteN D f i k).wrote (f (i + k)).1 (f (i + k)).2
theorem wroteN_W (D : dSt) (f : Nat → Int × List UInt8) (i : Nat) : ∀ k, (wroteN D f i k).W = D.W ++ (List.range k).map (fun j => f (i + j))
  | 0 => by simp [wroteN]
  | k + 1 => by
    show (wroteN D f i k).W ++ [((f (i + k)).1, (f (i + k)).2)] = _
    rw [wroteN_W D f i k, List.range_succ, List.map_append, List.append_assoc]; rfl
theorem wroteN_H (D : dSt) (f : Nat → Int × List UInt8) (i : Nat) : ∀ k, (wroteN D f i k).H = D.H
  | 0 => rfl
  | k + 1 => wroteN_H D f i k
theorem wroteN_size (D : dSt) (f : Nat → Int × List UInt8) (i : Nat) : ∀ k, (wroteN D f i k).size = D.size
  | 0 => rfl
  | k + 1 => wroteN_size D f i k
theorem wroteN_steps (D : dSt) (f : Nat → Int × List UInt8) (i : Nat) : ∀ k, (wroteN D f i k).steps = D.steps + k
  | 0 => by simp [wroteN]
  | k + 1 => by
    show (wroteN D f i k).steps + 1 = _
    rw [wroteN_steps D f i k]; omega
theorem wroteN_uncut {D : dSt} (f : Nat → Int × List UInt8) (i : Nat) (h : D.left = -1) : ∀ k, (wroteN D f i k).left = -1
  | 0 => h
  | k + 1 => by
    show less (wroteN D f i k).left = _
    rw [wroteN_uncut f i h k]; rfl
theorem wroteN_cut {D : dSt} (f : Nat → Int × List UInt8) (i : Nat) : ∀ k : Nat, (k : Int) ≤ D.left → (wroteN D f i k).left = D.left - k
  | 0, _ => by simp [wroteN]
  | k + 1, h => by
    show less (wroteN D f i k).left = _
    rw [wroteN_cut f i k (by omega), less, if_pos (by omega)]; omega
theorem wroteN_shift (D : dSt) (f : Nat → Int × List UInt8) (i : Nat) : ∀ k, wroteN (D.wrote (f i).1 (f i).2) f (i + 1) k = wroteN D f i (k + 1)
  | 0 => rfl
  | k + 1 => by
    show (wroteN (D.wrote (f i).1 (f i).2) f (i + 1) k).wrote (f (i + 1 + k)).1 (f (i + 1 + k)).2 = (wroteN D f i (k + 1)).wrote (f (i + (k + 1))).1 (f (i + (k + 1))).2
    rw [wroteN_shift D f i k, show i + 1 + k = i + (k + 1) by omega]
/-- All writes, and the sync. -/
theorem goW_all {f : Nat → Int × List UInt8} : ∀ {r i : Nat} {D : dSt}, (D.left = -1 ∨ (r : Int) < D.left) → goW f r i D = (0, (wroteN D f i r).synced)
  | 0, i, D, h => by
    rw [goW, if_neg (by omega)]; rfl
  | r + 1, i, D, h => by
    rw [goW, if_neg (by omega), goW_all (r := r) (i := i + 1), wroteN_shift]
    show less D.left = -1 ∨ (r : Int) < less D.left
    unfold less
    rcases h with h | h
    · rw [h]; exact .inl rfl
    · rw [if_pos (by omega)]; exact .inr (by omega)
/-- The power goes off on the way. -/
theorem goW_cut {f : Nat → Int × List UInt8} : ∀ {r i : Nat} {D : dSt}, 0 ≤ D.left → D.left ≤ r → goW f r i D = (10, wroteN D f i D.left.toNat)
  | 0, i, D, h0, h1 => by
    have h : D.left = 0 := by omega
    rw [goW, if_pos h, h]; rfl
  | r + 1, i, D, h0, h1 => by
    by_cases h : D.left = 0
    · rw [goW, if_pos h, h]; rfl
    · have hl : (D.wrote (f i).1 (f i).2).left = D.left - 1 := by
        show less D.left = _
        unfold less; rw [if_pos (by omega)]
      rw [goW, if_neg h, goW_cut (r := r) (i := i + 1) (by rw [hl]; omega) (by rw [hl]; omega), hl, wroteN_shift]
      rw [show (D.left - 1).toNat + 1 = D.left.toNat by omega]
end Go.Proofs.YtjbdchgadfhffaaDoor
