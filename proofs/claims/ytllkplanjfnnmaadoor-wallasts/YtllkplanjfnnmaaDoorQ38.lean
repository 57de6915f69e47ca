/- Texts put together: WLaMath, WLaMath2. -/
import Derived.Test.YtllkplanjfnnmaaDoorQ34
import Derived.Test.YtllkplanjfnnmaaDoorQ20
/- WalLasts: what stands behind a loss, whatever is kept, lost or torn: by definition. -/
namespace Go.Proofs.YtllkplanjfnnmaaDoor
open Go.RowKit M
set_option maxRecDepth 100000 in
/-- A sector that is torn over bytes 0 is whole, or none. -/
theorem torn_sec {e at_ : Nat} {g : List UInt8} {j : Nat} (he : e ≤ 1000000000) (ha : at_ + j < 10000) (a : Int) (h0 : 0 ≤ a) (h1 : a ≤ 256) :
    (W.laid e at_ g j).take a.toNat ++ (List.replicate 256 (0 : UInt8)).drop a.toNat = W.laid e at_ g j ∨ oErr ((W.laid e at_ g j).take a.toNat ++ (List.replicate 256 (0 : UInt8)).drop a.toNat) ≠ 0 := by
  have hp := W.piece_le (W.full g) j
  have hc : cl a = a.toNat := by unfold cl; rw [if_neg (by omega), if_neg (by omega)]
  have et : (W.laid e at_ g j).take a.toNat ++ (List.replicate 256 (0 : UInt8)).drop a.toNat = torn (List.replicate 256 0) (W.laid e at_ g j) a := by unfold torn; rw [hc]
  rw [et]
  by_cases hy : torn (List.replicate 256 0) (W.laid e at_ g j) a = W.laid e at_ g j
  · exact .inl hy
  · refine .inr ?_
    by_cases hx : torn (List.replicate 256 0) (W.laid e at_ g j) a = List.replicate 256 0
    · rw [hx, noughts_err]; decide
    · have hm : W.mark e (at_ + j) < 18446744073709551616 := by unfold W.mark; omega
      have hm0 : 0 < W.mark e (at_ + j) := by unfold W.mark; omega
      refine torn_whole (a := List.replicate 8 0) (b := fix (W.mark e (at_ + j)) 8) (by rw [List.length_replicate]) (len_sector _ _ _ hp) (by rw [List.take_replicate]; rfl) (by rw [List.drop_replicate]) (sector_take8 _ _ _) (sector_drop248 _ _ _ hp) (fun c => ?_) hx hy
      have q : unfix (fix (W.mark e (at_ + j)) 8) = W.mark e (at_ + j) := by rw [unfix_fix, Nat.mod_eq_of_lt (by omega)]
      rw [← c, show unfix (List.replicate 8 (0 : UInt8)) = 0 by decide +kernel] at q
      omega
/-- What a disk of nine sectors holds of the groups of the epoch 2. -/
structure Lst (H : Int → List UInt8) (G : List (List UInt8)) : Prop where
  lay : W.Lay 2 (fun i => H ((1 + i : Nat) : Int)) 0 G
  rest : ∀ i, W.usedOf G ≤ i → i < 9 → H ((1 + i : Nat) : Int) = List.replicate 256 0
  used : W.usedOf G ≤ 9
  good : ∀ g ∈ G, W.Good g
theorem lay_get {e : Nat} {sec : Nat → List UInt8} : ∀ {G : List (List UInt8)} {at_ : Nat}, W.Lay e sec at_ G → ∀ i, i < W.usedOf G → ∃ a g j, at_ + i = a + j ∧ sec (at_ + i) = W.laid e a g j
  | [], _, _, i, hi => absurd hi (Nat.not_lt_zero _)
  | g :: G, at_, h, i, hi => by
    by_cases c : i < W.secs g.length
    · exact ⟨at_, g, i, rfl, h.1 i c⟩
    · rw [W.usedOf] at hi
      obtain ⟨a, g', j, h1, h2⟩ := lay_get h.2 (i - W.secs g.length) (by omega)
      rw [show at_ + W.secs g.length + (i - W.secs g.length) = at_ + i by omega] at h1 h2
      exact ⟨a, g', j, h1, h2⟩
set_option maxRecDepth 100000 in
theorem Lst.bad3 {H : Int → List UInt8} {G : List (List UInt8)} (h : Lst H G) (i : Nat) (hi : i < 9) : W.Bad 3 i (H ((1 + i : Nat) : Int)) := by
  by_cases c : i < W.usedOf G
  · obtain ⟨a, g, j, h1, h2⟩ := lay_get h.lay i c
    rw [Nat.zero_add] at h1 h2
    rw [h2, h1]
    exact W.laid_bad (by decide) (by omega) (by decide)
  · rw [h.rest i (by omega) hi]; exact W.zeros_bad 3 i
set_option maxRecDepth 100000 in
/-- What is lost, or torn, of the writes of a group. -/
theorem lose_sec {H : Int → List UInt8} {u : Nat} {g : List UInt8} {c : Nat} {ks : List Bool} {tn at_ : Int} (hu : u + c ≤ 9) (hat : 0 ≤ tn ∧ tn < c → 0 ≤ at_ ∧ at_ ≤ 256) (hz : ∀ i, u ≤ i → i < 9 → H ((1 + i : Nat) : Int) = List.replicate 256 0) (j : Nat) (hj : u + j < 9) :
    ∀ k, k ≤ c → loseTo H ((List.range c).map (fun j => fW 1 2 u g (0 + j))) ks tn at_ k ((1 + u + j : Nat) : Int) = W.laid 2 u g j ∧ j < k ∨ loseTo H ((List.range c).map (fun j => fW 1 2 u g (0 + j))) ks tn at_ k ((1 + u + j : Nat) : Int) = List.replicate 256 0 ∨ (oErr (loseTo H ((List.range c).map (fun j => fW 1 2 u g (0 + j))) ks tn at_ k ((1 + u + j : Nat) : Int)) ≠ 0 ∧ j < k)
  | 0, _ => .inr (.inl (by rw [show 1 + u + j = 1 + (u + j) by omega]; exact hz (u + j) (by omega) hj))
  | k + 1, hk => by
    have ih := lose_sec (ks := ks) (tn := tn) (at_ := at_) (g := g) hu hat hz j hj k (by omega)
    have hW : ((List.range c).map (fun j => fW 1 2 u g (0 + j)))[k]? = some (fW 1 2 u g k) := by
      rw [List.getElem?_map, List.getElem?_range (by omega), Option.map_some, Nat.zero_add]
    have hne : j ≠ k → ((1 + u + j : Nat) : Int) ≠ (fW 1 2 u g k).1 := fun h c => by simp only [fW] at c; omega
    have heq : ((1 + u + k : Nat) : Int) = (fW 1 2 u g k).1 := rfl
    have keep : ∀ {x : List UInt8}, (x = W.laid 2 u g j ∧ j < k ∨ x = List.replicate 256 0 ∨ (oErr x ≠ 0 ∧ j < k)) → (x = W.laid 2 u g j ∧ j < k + 1 ∨ x = List.replicate 256 0 ∨ (oErr x ≠ 0 ∧ j < k + 1)) := fun h => by
      rcases h with ⟨h, q⟩ | h | ⟨h, q⟩
      · exact .inl ⟨h, by omega⟩
      · exact .inr (.inl h)
      · exact .inr (.inr ⟨h, by omega⟩)
    by_cases ht : (k : Int) = tn
    · rw [lose_torn hW ht]
      by_cases hjk : j = k
      · subst hjk
        rw [heq, upd, if_pos rfl, ← heq]
        have hz' : loseTo H ((List.range c).map (fun j => fW 1 2 u g (0 + j))) ks tn at_ j ((1 + u + j : Nat) : Int) = List.replicate 256 0 := by
          rcases ih with ⟨_, q⟩ | q | ⟨_, q⟩
          · omega
          · exact q
          · omega
        rw [hz']
        have hb := hat ⟨by omega, by omega⟩
        rcases torn_sec (e := 2) (at_ := u) (g := g) (j := j) (by decide) (by omega) at_ hb.1 hb.2 with q | q
        · exact .inl ⟨q, by omega⟩
        · exact .inr (.inr ⟨q, by omega⟩)
      · rw [upd, if_neg (hne hjk)]; exact keep ih
    · cases hks : ks.getD k false with
      | true =>
        rw [lose_kept hW ht hks]
        by_cases hjk : j = k
        · subst hjk
          rw [heq, upd, if_pos rfl]
          exact .inl ⟨rfl, by omega⟩
        · rw [upd, if_neg (hne hjk)]; exact keep ih
      | false =>
        rw [lose_left hW ht hks]; exact keep ih
end Go.Proofs.YtllkplanjfnnmaaDoor

/- WalLasts: the groups that stand behind a loss; what a Commit makes of them. -/
namespace Go.Proofs.YtllkplanjfnnmaaDoor
open Go.RowKit M
theorem lay_congr {e : Nat} {s t : Nat → List UInt8} : ∀ {G : List (List UInt8)} {at_ : Nat}, W.Lay e s at_ G → (∀ i, i < W.usedOf G → t (at_ + i) = s (at_ + i)) → W.Lay e t at_ G
  | [], _, _, _ => trivial
  | g :: G, at_, h, hc => by
    refine ⟨fun j hj => by rw [hc j (by rw [W.usedOf]; omega)]; exact h.1 j hj, lay_congr h.2 (fun i hi => ?_)⟩
    have q := hc (W.secs g.length + i) (by rw [W.usedOf]; omega)
    rw [← Nat.add_assoc] at q
    exact q
theorem first_not (P : Nat → Prop) : ∀ n, (∀ j, j < n → P j) ∨ ∃ k, k < n ∧ (∀ j, j < k → P j) ∧ ¬ P k
  | 0 => .inl (fun j hj => absurd hj (Nat.not_lt_zero _))
  | n + 1 => by
    rcases first_not P n with h | ⟨k, h1, h2, h3⟩
    · by_cases c : P n
      · exact .inl (fun j hj => by by_cases e : j = n; subst e; exact c; exact h j (by omega))
      · exact .inr ⟨n, by omega, h, c⟩
    · exact .inr ⟨k, by omega, h2, h3⟩
set_option maxRecDepth 100000 in
/-- All groups, and perhaps the last one. -/
theorem find_some {sec : Nat → List UInt8} {H : Int → List UInt8} {G : List (List UInt8)} {g : List UInt8} {c : Nat} (h : Lst H G) (hg : W.Good g) (hu : W.usedOf G + W.secs g.length ≤ 9) (hc : c ≤ W.secs g.length) (h1 : ∀ i, i < W.usedOf G → sec i = H ((1 + i : Nat) : Int)) (h2 : ∀ j, W.usedOf G + j < 9 → (sec (W.usedOf G + j) = W.laid 2 (W.usedOf G) g j ∧ j < c) ∨ ∀ e, W.Bad e (W.usedOf G + j) (sec (W.usedOf G + j))) :
    ((W.find 2 sec 9 0 [] [] 0).1 = G ∨ (W.find 2 sec 9 0 [] [] 0).1 = G ++ [g]) ∧ (W.find 3 sec 9 0 [] [] 0).1 = [] := by
  have hp := W.secs_pos g.length
  have hl : W.Lay 2 sec 0 G := lay_congr h.lay (fun i hi => by rw [Nat.zero_add]; exact h1 i hi)
  have q := W.find_lay (e := 2) (sec := sec) (by decide) G 0 (9 - W.usedOf G) [] h.good hl (by have := h.used; omega)
  rw [Nat.zero_add, List.nil_append, show 9 - W.usedOf G + W.usedOf G = 9 by have := h.used; omega] at q
  refine ⟨?_, ?_⟩
  · rw [q]
    rcases first_not (fun j => sec (W.usedOf G + j) = W.laid 2 (W.usedOf G) g j) (W.secs g.length) with ha | ⟨k, k1, k2, k3⟩
    · have q2 := W.find_whole (e := 2) (at_ := W.usedOf G) (sec := sec) (by decide) hg.1 hg.2 (by omega) ha G (W.usedOf G) (9 - W.usedOf G - W.secs g.length) (W.secs g.length - 1) 0 (by omega)
      rw [show 9 - W.usedOf G - W.secs g.length + (W.secs g.length - 1) + 1 = 9 - W.usedOf G by omega, Nat.mul_zero, List.take_zero, Nat.add_zero] at q2
      rw [q2]
      refine .inr ?_
      by_cases h9 : W.usedOf G + W.secs g.length = 9
      · rw [show 9 - W.usedOf G - W.secs g.length = 0 by omega]; rfl
      · rcases h2 (W.secs g.length) (by omega) with ⟨_, c1⟩ | c1
        · omega
        · rw [W.find_bad (c1 2)]
    · rcases h2 k (by omega) with ⟨c1, _⟩ | c1
      · exact absurd c1 k3
      · have q2 := W.find_part (e := 2) (at_ := W.usedOf G) (sec := sec) (k := k) (by decide) hg.1 hg.2 (by omega) k1 k2 (c1 2) G (W.usedOf G) k 0 (9 - W.usedOf G) (by omega)
        rw [Nat.mul_zero, List.take_zero, Nat.add_zero] at q2
        rw [q2]
        exact .inl rfl
  · have hb : W.Bad 3 0 (sec 0) := by
      by_cases h0 : 0 < W.usedOf G
      · rw [h1 0 h0]; exact h.bad3 0 (by decide)
      · have e0 : W.usedOf G = 0 := by omega
        rcases h2 0 (by omega) with ⟨c1, _⟩ | c1
        · rw [e0] at c1
          rw [c1]; exact W.laid_bad (at_ := 0) (j := 0) (by decide) (by decide) (by decide)
        · have := c1 3
          rw [e0] at this
          exact this
    rw [W.find_bad hb]
set_option maxRecDepth 100000 in
/-- Nothing waits. -/
theorem find_all {H : Int → List UInt8} {G : List (List UInt8)} (h : Lst H G) : (W.find 2 (fun i => H ((1 + i : Nat) : Int)) 9 0 [] [] 0).1 = G ∧ (W.find 3 (fun i => H ((1 + i : Nat) : Int)) 9 0 [] [] 0).1 = [] := by
  have hu := h.used
  have q := W.find_lay (e := 2) (sec := fun i => H ((1 + i : Nat) : Int)) (by decide) G 0 (9 - W.usedOf G) [] h.good h.lay (by omega)
  rw [Nat.zero_add, List.nil_append, show 9 - W.usedOf G + W.usedOf G = 9 by omega] at q
  refine ⟨?_, by rw [W.find_bad (h.bad3 0 (by decide))]⟩
  rw [q]
  by_cases h9 : W.usedOf G = 9
  · rw [h9]; rfl
  · rw [W.find_bad (by show W.Bad 2 _ (H _); rw [h.rest _ (Nat.le_refl _) (by omega)]; exact W.zeros_bad 2 _)]
set_option maxRecDepth 100000 in
/-- Behind a loss. -/
theorem lost_find {D : dSt} {G : List (List UInt8)} {g : List UInt8} {c : Nat} {ks : List Bool} {tn at_ : Int} (h : Lst D.H G) (hg : W.Good g) (hu : W.usedOf G + W.secs g.length ≤ 9) (hc : c ≤ W.secs g.length) (hW : D.W = (List.range c).map (fun j => fW 1 2 (W.usedOf G) g (0 + j))) (hat : 0 ≤ tn ∧ tn < c → 0 ≤ at_ ∧ at_ ≤ 256) :
    ((W.find 2 (secOf (D.lost ks tn at_) 1) 9 0 [] [] 0).1 = G ∨ (W.find 2 (secOf (D.lost ks tn at_) 1) 9 0 [] [] 0).1 = G ++ [g]) ∧ (W.find 3 (secOf (D.lost ks tn at_) 1) 9 0 [] [] 0).1 = [] := by
  have hs : ∀ i, secOf (D.lost ks tn at_) 1 i = loseTo D.H ((List.range c).map (fun j => fW 1 2 (W.usedOf G) g (0 + j))) ks tn at_ c ((1 + i : Nat) : Int) := fun i => by
    show hasOf (loseTo D.H D.W ks tn at_ D.W.length) [] _ = _
    rw [hW, List.length_map, List.length_range]; rfl
  refine find_some h hg hu hc (fun i hi => ?_) (fun j hj => ?_)
  · rw [hs]
    refine lose_apart (fun x hx => ?_) c
    obtain ⟨j, _, rfl⟩ := List.mem_map.1 hx
    simp only [fW]
    omega
  · rw [hs, show 1 + (W.usedOf G + j) = 1 + W.usedOf G + j by omega]
    rcases lose_sec (ks := ks) (g := g) (by omega) hat h.rest j hj c (Nat.le_refl _) with ⟨q, q2⟩ | q | ⟨q, _⟩
    · exact .inl ⟨q, q2⟩
    · exact .inr (fun e => by rw [q]; exact W.zeros_bad e _)
    · exact .inr (fun e => .inl q)
set_option maxRecDepth 100000 in
theorem lost_none {D : dSt} {G : List (List UInt8)} {ks : List Bool} {tn at_ : Int} (h : Lst D.H G) (hW : D.W = []) : (W.find 2 (secOf (D.lost ks tn at_) 1) 9 0 [] [] 0).1 = G ∧ (W.find 3 (secOf (D.lost ks tn at_) 1) 9 0 [] [] 0).1 = [] := by
  have hs : secOf (D.lost ks tn at_) 1 = fun i => D.H ((1 + i : Nat) : Int) := by
    funext i
    show hasOf (loseTo D.H D.W ks tn at_ D.W.length) [] _ = _
    rw [hW]; rfl
  rw [hs]
  exact find_all h
set_option maxRecDepth 100000 in
/-- One more group stands. -/
theorem Lst.more {H : Int → List UInt8} {G : List (List UInt8)} {g : List UInt8} (h : Lst H G) (hg : W.Good g) (hu : W.usedOf G + W.secs g.length ≤ 9) : Lst (syncH H ((List.range (W.secs g.length)).map (fun j => fW 1 2 (W.usedOf G) g (0 + j)))) (G ++ [g]) := by
  have hlow : ∀ i, i < W.usedOf G → syncH H ((List.range (W.secs g.length)).map (fun j => fW 1 2 (W.usedOf G) g (0 + j))) ((1 + i : Nat) : Int) = H ((1 + i : Nat) : Int) := fun i hi => by
    rw [syncH_has]
    rcases has_cases H ((List.range (W.secs g.length)).map (fun j => fW 1 2 (W.usedOf G) g (0 + j))) ((1 + i : Nat) : Int) with e | ⟨x, hx, h1, _⟩
    · exact e
    · obtain ⟨j, _, rfl⟩ := List.mem_map.1 hx
      simp only [fW] at h1
      omega
  have hhi : ∀ j, syncH H ((List.range (W.secs g.length)).map (fun j => fW 1 2 (W.usedOf G) g (0 + j))) ((1 + (W.usedOf G + j) : Nat) : Int) = if j < W.secs g.length then W.laid 2 (W.usedOf G) g j else H ((1 + (W.usedOf G + j) : Nat) : Int) := fun j => by
    rw [syncH_has, ← Nat.add_assoc]; exact has_writes H 1 2 (W.usedOf G) g j _
  have hua : W.usedOf (G ++ [g]) = W.usedOf G + W.secs g.length := by rw [W.usedOf_app]; rfl
  refine ⟨(lay_congr h.lay (fun i hi => by rw [Nat.zero_add]; exact hlow i hi)).app (fun j hj => ?_), fun i hi h9 => ?_, by omega, fun x hx => ?_⟩
  · rw [Nat.zero_add, hhi, if_pos hj]
  · rw [hua] at hi
    have q := hhi (i - W.usedOf G)
    rw [show W.usedOf G + (i - W.usedOf G) = i by omega, if_neg (by omega)] at q
    rw [q]; exact h.rest i (by omega) h9
  · rcases List.mem_append.1 hx with hx | hx
    · exact h.good x hx
    · rw [List.mem_singleton.1 hx]; exact hg
end Go.Proofs.YtllkplanjfnnmaaDoor
