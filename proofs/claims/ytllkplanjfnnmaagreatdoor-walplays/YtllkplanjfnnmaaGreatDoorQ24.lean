/- Finding the groups that stand: how many sectors each one has. -/
import Derived.Test.YtllkplanjfnnmaaGreatDoorQ07
namespace Go.Proofs.YtllkplanjfnnmaaGreatDoor
namespace W
open M
/-- Where finding is: in the sector i, behind groups of u sectors, with the pieces b. -/
structure FI (i u : Nat) (b : List UInt8) : Prop where
  le : u ≤ i
  len : b.length = 233 * (i - u)
  more : u < i → b.length < need b
theorem FI.start (i : Nat) : FI i i [] := ⟨Nat.le_refl _, by simp, fun h => absurd h (Nat.lt_irrefl _)⟩
set_option maxRecDepth 100000 in
theorem FI.next {i u : Nat} {b c : List UInt8} (h : FI i u b) (hc : c.length = 233) (hn : (b ++ c).length < need (b ++ c)) : FI (i + 1) u (b ++ c) := by
  have h1 := h.le
  have h2 := h.len
  exact ⟨by omega, by rw [List.length_append, hc, h2]; omega, fun _ => hn⟩
set_option maxRecDepth 100000 in
theorem need_ge (b : List UInt8) : 4 ≤ need b := by unfold need; omega
set_option maxRecDepth 100000 in
theorem FI.done {i u : Nat} {b c : List UInt8} (h : FI i u b) (hc : c.length ≤ 233) (hn : (b ++ c).length = need (b ++ c)) : i + 1 = u + secs ((b ++ c).drop 4).length := by
  have h1 := h.le
  have h2 := h.len
  have h4 := need_ge (b ++ c)
  rw [List.length_append] at hn
  have hpos : 0 < c.length := by
    rcases Nat.lt_or_ge u i with hlt | hge
    · have h3 := h.more hlt
      have e : need (b ++ c) = need b := by unfold need; rw [List.take_append_of_le_length (by omega)]
      rw [e] at hn
      omega
    · have : i - u = 0 := by omega
      rw [this] at h2
      omega
  unfold secs
  rw [List.length_drop, List.length_append]
  omega
set_option maxRecDepth 100000 in
theorem oBody_le (s : List UInt8) : (oBody s).length ≤ 233 := by
  unfold oBody
  split
  · rename_i h0
    unfold oErr at h0
    split at h0
    · cases h0
    · split at h0
      · cases h0
      · split at h0
        · cases h0
        · split at h0
          · cases h0
          · split at h0
            · cases h0
            · rename_i h1
              simp only [not_or] at h1
              rw [List.length_take]; omega
  · simp
end W
end Go.Proofs.YtllkplanjfnnmaaGreatDoor
