/- What a log's sectors are behind its writes, and behind a loss. -/
import Derived.Test.YtllkplanjfnnmaaDoorQ26
import Derived.Test.YtllkplanjfnnmaaDoorQ27
namespace Go.Proofs.YtllkplanjfnnmaaDoor
open Go.RowKit

theorem fold_cases (i : Int) : ∀ (X : List (Int × List UInt8)) (z : List UInt8), X.foldl (fun acc x => if x.1 = i then x.2 else acc) z = z ∨ ∃ x ∈ X, x.1 = i ∧ X.foldl (fun acc x => if x.1 = i then x.2 else acc) z = x.2
  | [], z => .inl rfl
  | x :: X, z => by
    rw [List.foldl_cons]
    by_cases h : x.1 = i
    · rw [if_pos h]
      rcases fold_cases i X x.2 with e | ⟨y, hy, h1, e⟩
      · exact .inr ⟨x, List.mem_cons_self, h, e⟩
      · exact .inr ⟨y, List.mem_cons_of_mem _ hy, h1, e⟩
    · rw [if_neg h]
      rcases fold_cases i X z with e | ⟨y, hy, h1, e⟩
      · exact .inl e
      · exact .inr ⟨y, List.mem_cons_of_mem _ hy, h1, e⟩
/-- What a sector has: what it had, or what one of the writes put there. -/
theorem has_cases (H : Int → List UInt8) (X : List (Int × List UInt8)) (i : Int) : hasOf H X i = H i ∨ ∃ x ∈ X, x.1 = i ∧ hasOf H X i = x.2 := fold_cases i X (H i)
/-- The first c writes of a group. -/
theorem has_writes (H : Int → List UInt8) (fr ep us : Nat) (g : List UInt8) (i : Nat) : ∀ c, hasOf H ((List.range c).map (fun j => fW fr ep us g (0 + j))) ((fr + us + i : Nat) : Int) = if i < c then W.laid ep us g i else H ((fr + us + i : Nat) : Int)
  | 0 => by simp [hasOf]
  | c + 1 => by
    have ih := has_writes H fr ep us g i c
    unfold hasOf at ih ⊢
    rw [List.range_succ, List.map_append, List.foldl_append, ih]
    simp only [List.map_cons, List.map_nil, List.foldl_cons, List.foldl_nil, fW]
    by_cases h : i = c
    · subst h
      rw [if_pos (by omega), if_pos (by omega)]
      simp
    · rw [if_neg (by omega)]
      by_cases h2 : i < c
      · rw [if_pos h2, if_pos (by omega)]
      · rw [if_neg h2, if_neg (by omega)]
/-- Groups of an epoch below e alone. -/
structure Old (D : dSt) (n : Nat) : Prop where
  left : D.left = -1
  wait : D.W = []
  size : D.size = n + 1
  bad : ∀ i, i < n → W.Bad 3 i (D.H ((1 + i : Nat) : Int))
theorem old_new (n : Nat) : Old (dSt.new ((n : Int) + 1)) n := ⟨rfl, rfl, rfl, fun i _ => W.zeros_bad 3 i⟩
/-- A log of nine sectors in the epoch 2. -/
structure Two (L : LS) : Prop where
  fr : L.fr = 1
  ct : L.ct = 9
  ep : L.ep = 2
  cl : L.cl = false
set_option maxRecDepth 100000 in
theorem Two.app {L : LS} (h : Two L) (bs : List UInt8) : Two (appL L bs) := by
  unfold appL
  split
  · exact ⟨h.fr, h.ct, h.ep, h.cl⟩
  · exact h
set_option maxRecDepth 100000 in
theorem goW_good {L : LS} {D : dSt} (h : D.left = -1) : (comR L D).1 = 0 ∧ (comR L D).2 = (wroteN D (fW L.fr L.ep (W.usedOf L.G) (W.gbytes L.R)) 0 (W.secs (W.gbytes L.R).length)).synced := by
  unfold comR
  rw [goW_all (.inl h)]
  exact ⟨rfl, rfl⟩
set_option maxRecDepth 100000 in
theorem two_com {L : LS} {D : dSt} (h : Two L) (hD : Old D 9) : comE L D = 0 ∧ Two (comL L D) ∧ Old (comD L D) 9 := by
  have hc : ¬ L.cl = true := by rw [h.cl]; decide
  by_cases hR : L.R = []
  · rw [comE, comL, comD, if_neg hc, if_neg hc, if_neg hc, if_pos hR, if_pos hR, if_pos hR]
    exact ⟨rfl, h, hD⟩
  · obtain ⟨e1, e2⟩ := goW_good (L := L) hD.left
    rw [comE, comL, comD, if_neg hc, if_neg hc, if_neg hc, if_neg hR, if_neg hR, if_neg hR, e1, e2, if_pos rfl]
    refine ⟨rfl, ⟨h.fr, h.ct, h.ep, h.cl⟩, ?_, rfl, ?_, fun i hi => ?_⟩
    · show less (wroteN D _ 0 _).left = -1
      rw [wroteN_uncut _ _ hD.left]; rfl
    · show (wroteN D _ 0 _).size = _
      rw [wroteN_size]; exact hD.size
    · show W.Bad 3 i (syncH (wroteN D _ 0 _).H (wroteN D _ 0 _).W _)
      rw [wroteN_H, wroteN_W, hD.wait, List.nil_append, syncH_has]
      rcases has_cases D.H ((List.range (W.secs (W.gbytes L.R).length)).map (fun j => fW L.fr L.ep (W.usedOf L.G) (W.gbytes L.R) (0 + j))) ((1 + i : Nat) : Int) with e | ⟨x, hx, h1, e⟩
      · rw [e]; exact hD.bad i hi
      · rw [e]
        obtain ⟨j, hj, rfl⟩ := List.mem_map.1 hx
        simp only [fW, h.fr] at h1 ⊢
        have hij : i = W.usedOf L.G + (0 + j) := by omega
        rw [hij, h.ep]
        exact W.laid_bad (by decide) (by omega) (by decide)
set_option maxRecDepth 100000 in
/-- Behind a loss that keeps the first c writes of a group of the epoch 3. -/
theorem find_kept {sec : Nat → List UInt8} {H : Int → List UInt8} {g : List UInt8} {c : Nat} (hg : W.Good g) (hr : W.secs g.length ≤ 9) (hs : ∀ i, i < 9 → sec i = if i < c then W.laid 3 0 g i else H ((1 + i : Nat) : Int)) (hb : ∀ i, i < 9 → W.Bad 3 i (H ((1 + i : Nat) : Int))) (hc : c ≤ W.secs g.length) :
    (W.find 3 sec 9 0 [] [] 0).1 = if c = W.secs g.length then [g] else [] := by
  have hp := W.secs_pos g.length
  by_cases h : c = W.secs g.length
  · rw [if_pos h]
    have q := W.find_whole (e := 3) (at_ := 0) (sec := sec) (by decide) hg.1 hg.2 (by omega) (fun j hj => by rw [Nat.zero_add, hs j (by omega), if_pos (by omega)]) [] 0 (9 - W.secs g.length) (W.secs g.length - 1) 0 (by omega)
    rw [show 9 - W.secs g.length + (W.secs g.length - 1) + 1 = 9 by omega, Nat.mul_zero, List.take_zero, Nat.add_zero, Nat.zero_add] at q
    rw [q]
    by_cases h9 : W.secs g.length = 9
    · rw [h9]; rfl
    · rw [W.find_bad (by rw [hs _ (by omega), if_neg (by omega)]; exact hb _ (by omega))]; rfl
  · rw [if_neg h]
    have q := W.find_part (e := 3) (at_ := 0) (sec := sec) (k := c) (by decide) hg.1 hg.2 (by omega) (by omega) (fun j hj => by rw [Nat.zero_add, hs j (by omega), if_pos hj]) (by rw [Nat.zero_add, hs c (by omega), if_neg (by omega)]; exact hb c (by omega)) [] 0 c 0 9 (by omega)
    rw [Nat.mul_zero, List.take_zero, Nat.add_zero] at q
    rw [q]
end Go.Proofs.YtllkplanjfnnmaaDoor
