/- Texts put together: WRMath, WRM2. -/
import Derived.Test.YtllkplanjfnnmaaGreatDoorQ24
import Derived.Test.YtllkplanjfnnmaaGreatDoorQ19
/- A group that stands, as the reference's log takes it, piece by piece. -/
namespace Go.Proofs.YtllkplanjfnnmaaGreatDoor
namespace W
open M
/-- A group's bytes and the sector behind it: n sectors are left, from i on; b: its pieces so far. -/
def rgrp (e : Nat) (sec : Nat → List UInt8) : Nat → Nat → List UInt8 → Option (List UInt8 × Nat)
  | 0, _, _ => none
  | n + 1, i, b =>
    if oErr (sec i) ≠ 0 ∨ oMark (sec i) ≠ mark e i ∨ oKind (sec i) ≠ kind b.length then none
    else if (b ++ oBody (sec i)).length < 4 then none
    else if (oBody (sec i)).length ≠ min (need (b ++ oBody (sec i)) - b.length) 233 then none
    else if (b ++ oBody (sec i)).length < need (b ++ oBody (sec i)) then rgrp e sec n (i + 1) (b ++ oBody (sec i))
    else some (b ++ oBody (sec i), i + 1)
theorem rgrp_le {e : Nat} {sec : Nat → List UInt8} : ∀ (n i : Nat) (b g : List UInt8) (j : Nat), rgrp e sec n i b = some (g, j) → i < j ∧ j ≤ i + n
  | 0, _, _, _, _, h => by cases h
  | n + 1, i, b, g, j, h => by
    rw [rgrp] at h
    split at h
    · cases h
    · split at h
      · cases h
      · split at h
        · cases h
        · split at h
          · have q := rgrp_le n (i + 1) _ g j h
            omega
          · cases h
            omega
set_option maxRecDepth 100000 in
theorem need_app {b c : List UInt8} (h : 4 ≤ b.length) : need (b ++ c) = need b := by unfold need; rw [List.take_append_of_le_length h]
set_option maxRecDepth 100000 in
/-- Finding goes on group by group. -/
theorem find_rgrp {e : Nat} {sec : Nat → List UInt8} : ∀ (n i u : Nat) (b : List UInt8) (gs : List (List UInt8)), FI i u b →
    find e sec n i b gs u = match rgrp e sec n i b with
      | none => (gs, u)
      | some x => if recs (x.1.drop 4) = [] then (gs, u) else find e sec (n - (x.2 - i)) x.2 [] (gs ++ [x.1.drop 4]) x.2
  | 0, _, _, _, _, _ => rfl
  | n + 1, i, u, b, gs, h => by
    rw [find, rgrp]
    by_cases h1 : oErr (sec i) ≠ 0 ∨ oMark (sec i) ≠ mark e i ∨ oKind (sec i) ≠ kind b.length
    · rw [if_pos h1, if_pos h1]
    · rw [if_neg h1, if_neg h1]
      have hc := oBody_le (sec i)
      generalize oBody (sec i) = c at *
      have h4 := need_ge (b ++ c)
      have hl : (b ++ c).length = b.length + c.length := List.length_append
      have hb : b = [] ∨ (4 ≤ b.length ∧ b.length < need (b ++ c)) := by
        rcases Nat.lt_or_ge u i with hlt | hge
        · have h2 := h.len
          have h3 : 4 ≤ b.length := by omega
          exact .inr ⟨h3, by rw [need_app h3]; exact h.more hlt⟩
        · have h2 := h.len
          rw [show i - u = 0 by omega] at h2
          exact .inl (List.eq_nil_of_length_eq_zero h2)
      have hb2 : b.length < need (b ++ c) := by
        rcases hb with e1 | e1
        · rw [e1]; show 0 < _; have := need_ge ([] ++ c); omega
        · exact e1.2
      by_cases h2 : (b ++ c).length < need (b ++ c) ∧ c.length = 233
      · have hm : ¬ c.length ≠ min (need (b ++ c) - b.length) 233 := by omega
        have h5 : ¬ (b ++ c).length < 4 := by omega
        rw [if_pos h2, if_neg h5, if_neg hm, if_pos h2.1, find_rgrp n (i + 1) u (b ++ c) gs (h.next h2.2 h2.1)]
        cases hr : rgrp e sec n (i + 1) (b ++ c) with
        | none => rfl
        | some x =>
          have q := rgrp_le n (i + 1) (b ++ c) x.1 x.2 hr
          simp only
          rw [show n + 1 - (x.2 - i) = n - (x.2 - (i + 1)) by omega]
      · rw [if_neg h2]
        by_cases h3 : (b ++ c).length = need (b ++ c)
        · have h5 : ¬ (b ++ c).length < 4 := by omega
          have hm : ¬ c.length ≠ min (need (b ++ c) - b.length) 233 := by omega
          have h6 : ¬ (b ++ c).length < need (b ++ c) := by omega
          rw [if_neg h5, if_neg hm, if_neg h6]
          simp only
          rw [show n + 1 - (i + 1 - i) = n by omega]
          by_cases h7 : recs ((b ++ c).drop 4) = []
          · rw [if_pos (.inr h7), if_pos h7]
          · rw [if_neg (fun q => by rcases q with q | q; exact q h3; exact h7 q), if_neg h7]
        · rw [if_pos (.inl h3)]
          by_cases h5 : (b ++ c).length < 4
          · rw [if_pos h5]
          · rw [if_neg h5]
            have hm : c.length ≠ min (need (b ++ c) - b.length) 233 := by
              intro q
              rw [hl] at h2 h3
              rcases Nat.lt_or_ge (b.length + c.length) (need (b ++ c)) with k | k
              · exact h2 ⟨k, by omega⟩
              · omega
            rw [if_pos hm]
end W
end Go.Proofs.YtllkplanjfnnmaaGreatDoor

/- What the reference's group tells, in numbers; the groups that are found may stand. -/
namespace Go.Proofs.YtllkplanjfnnmaaGreatDoor
namespace W
open M
set_option maxRecDepth 100000 in
theorem rgrp_done {e : Nat} {sec : Nat → List UInt8} : ∀ (n i u : Nat) (b g : List UInt8) (j : Nat), FI i u b → rgrp e sec n i b = some (g, j) → j = u + secs (g.drop 4).length ∧ 4 ≤ g.length ∧ g.length = need g
  | 0, _, _, _, _, _, _, h => by cases h
  | n + 1, i, u, b, g, j, h, hr => by
    rw [rgrp] at hr
    have hc := oBody_le (sec i)
    generalize oBody (sec i) = c at *
    have h4 := need_ge (b ++ c)
    have hl : (b ++ c).length = b.length + c.length := List.length_append
    have hb2 : b.length < need (b ++ c) := by
      rcases Nat.lt_or_ge u i with hlt | hge
      · have h2 := h.len
        have h3 : 4 ≤ b.length := by omega
        rw [need_app h3]; exact h.more hlt
      · have h2 := h.len
        rw [show i - u = 0 by omega] at h2
        rw [List.eq_nil_of_length_eq_zero h2]
        have := need_ge ([] ++ c)
        show 0 < _
        omega
    split at hr
    · cases hr
    · split at hr
      · cases hr
      · rename_i h5
        split at hr
        · cases hr
        · rename_i h6
          split at hr
          · rename_i h7
            exact rgrp_done n (i + 1) u (b ++ c) g j (h.next (by omega) h7) hr
          · rename_i h7
            have e1 : (b ++ c).length = need (b ++ c) := by omega
            have e2 := h.done hc e1
            simp only [Option.some.injEq, Prod.mk.injEq] at hr
            obtain ⟨rfl, rfl⟩ := hr
            exact ⟨e2, by omega, e1⟩
theorem find_fine {e : Nat} {sec : Nat → List UInt8} : ∀ (m n i : Nat) (gs : List (List UInt8)), n ≤ m → usedOf gs = i → i + n ≤ 10000 → (∀ g ∈ gs, Good g) →
    (∀ g ∈ (find e sec n i [] gs i).1, Good g) ∧ usedOf (find e sec n i [] gs i).1 = (find e sec n i [] gs i).2 ∧ (find e sec n i [] gs i).2 ≤ i + n
  | m, n, i, gs, hm, hu, hn, hg => by
    rw [find_rgrp n i i [] gs (FI.start i)]
    cases hr : rgrp e sec n i [] with
    | none => exact ⟨hg, hu, by show i ≤ i + n; omega⟩
    | some x =>
      obtain ⟨g, j⟩ := x
      simp only
      by_cases h7 : recs (g.drop 4) = []
      · rw [if_pos h7]; exact ⟨hg, hu, by show i ≤ i + n; omega⟩
      · rw [if_neg h7]
        have h1 := rgrp_le n i [] g j hr
        have h2 := rgrp_done n i i [] g j (FI.start i) hr
        have h3 : (g.drop 4).length ≤ 233 * 10000 := secs_len (by omega)
        cases m with
        | zero => omega
        | succ m =>
          have q := find_fine (e := e) (sec := sec) m (n - (j - i)) j (gs ++ [g.drop 4]) (by omega) (by rw [usedOf_app, hu]; simp only [usedOf]; omega) (by omega) (fun y hy => by
            rcases List.mem_append.1 hy with hy | hy
            · exact hg y hy
            · obtain rfl := List.mem_singleton.1 hy; exact ⟨by omega, h7⟩)
          refine ⟨q.1, q.2.1, ?_⟩
          have := q.2.2
          omega
end W
/-- A log that is opened. -/
def opL (fr ct ep : Nat) (sec : Nat → List UInt8) : LS := ⟨fr, ct, ep, true, (W.find ep sec ct 0 [] [] 0).1, []⟩
set_option maxRecDepth 100000 in
theorem opL_ok {fr ct ep : Nat} {sec : Nat → List UInt8} (h1 : fr ≤ 4096) (h2 : ct ≤ 10000) (h3 : ep ≤ 1000000000) : (opL fr ct ep sec).Ok := by
  have q := W.find_fine (e := ep) (sec := sec) ct ct 0 [] (Nat.le_refl _) rfl (by omega) (fun g hg => by cases hg)
  refine ⟨h1, h2, h3, ?_, fun c => absurd rfl c, q.1⟩
  show W.usedOf (W.find ep sec ct 0 [] [] 0).1 ≤ ct
  have := q.2.2
  rw [q.2.1]; omega
end Go.Proofs.YtllkplanjfnnmaaGreatDoor
