/- Sorting in place, by definition: places exchanged, what is moved within a part, the ways of insertion, rotation and merging. -/
import Ieee.Arith
namespace Go.Proofs.Ytkkmbpcmkhikkaa.M
variable {α : Type} [Inhabited α]

/-- A list with two places exchanged. -/
def swp (l : List α) (i j : Nat) : List α := (l.set i l[j]!).set j l[i]!
theorem len_swp (l : List α) (i j : Nat) : (swp l i j).length = l.length := by simp [swp]
theorem get_set (l : List α) (i k : Nat) (x : α) (hi : i < l.length) : (l.set i x)[k]! = if k = i then x else l[k]! := by
  by_cases h : k = i
  · subst h; simp [hi]
  · rw [if_neg h]
    simp only [List.getElem!_eq_getElem?_getD, List.getElem?_set]
    rw [if_neg (fun e => h e.symm)]
theorem get_swp (l : List α) {i j : Nat} (hi : i < l.length) (hj : j < l.length) (k : Nat) : (swp l i j)[k]! = if k = j then l[i]! else if k = i then l[j]! else l[k]! := by
  unfold swp
  rw [get_set _ _ _ _ (by simpa using hj), get_set _ _ _ _ hi]
theorem ext_get {l m : List α} (hl : l.length = m.length) (h : ∀ k, k < l.length → l[k]! = m[k]!) : l = m := by
  apply List.ext_getElem hl
  intro k h1 h2
  have := h k h1
  rwa [getElem!_pos l k h1, getElem!_pos m k h2] at this
theorem perm_swp (l : List α) {i j : Nat} (hi : i < l.length) (hj : j < l.length) : (swp l i j).Perm l := by
  have key : ∀ (l : List α) (i j : Nat) (hi : i < l.length) (hj : j < l.length), i < j → (swp l i j).Perm l := by
    intro l i j hi hj hij
    have e1 : l = l.take i ++ l[i]! :: ((l.drop (i + 1)).take (j - i - 1) ++ l[j]! :: l.drop (j + 1)) := by
      have a1 : l = l.take i ++ l.drop i := (List.take_append_drop i l).symm
      have a2 : l.drop i = l[i]! :: l.drop (i + 1) := by rw [getElem!_pos l i hi]; exact List.drop_eq_getElem_cons hi
      have a3 : l.drop (i + 1) = (l.drop (i + 1)).take (j - i - 1) ++ (l.drop (i + 1)).drop (j - i - 1) := (List.take_append_drop _ _).symm
      have a4 : (l.drop (i + 1)).drop (j - i - 1) = l.drop j := by rw [List.drop_drop]; congr 1; omega
      have a5 : l.drop j = l[j]! :: l.drop (j + 1) := by rw [getElem!_pos l j hj]; exact List.drop_eq_getElem_cons hj
      conv => lhs; rw [a1, a2, a3, a4, a5]
    generalize hx : l.take i = x at e1
    generalize hy : (l.drop (i + 1)).take (j - i - 1) = y at e1
    generalize hz : l.drop (j + 1) = z at e1
    generalize hu : l[i]! = u at e1
    generalize hv : l[j]! = v at e1
    have lx : x.length = i := by rw [← hx]; simp; omega
    have ly : y.length = j - i - 1 := by rw [← hy]; simp; omega
    have e2 : swp l i j = x ++ v :: (y ++ u :: z) := by
      apply ext_get
      · rw [len_swp]; conv => lhs; rw [e1]
        simp
      · intro k hk
        rw [get_swp l hi hj, hu, hv]
        conv => lhs; rw [e1]
        simp only [List.getElem!_eq_getElem?_getD]
        by_cases h1 : k = j
        · subst h1
          rw [if_pos rfl, List.getElem?_append_right (by omega), show k - x.length = (k - i - 1) + 1 by omega, List.getElem?_cons_succ, List.getElem?_append_right (by omega), ly, Nat.sub_self]
          rfl
        · rw [if_neg h1]
          by_cases h2 : k = i
          · subst h2
            rw [if_pos rfl, List.getElem?_append_right (by omega), lx, Nat.sub_self]
            rfl
          · rw [if_neg h2]
            by_cases h3 : k < i
            · rw [List.getElem?_append_left (by omega), List.getElem?_append_left (by omega)]
            · rw [List.getElem?_append_right (by omega), List.getElem?_append_right (by omega), show k - x.length = (k - i - 1) + 1 by omega, List.getElem?_cons_succ, List.getElem?_cons_succ]
              by_cases h4 : k < j
              · rw [List.getElem?_append_left (by omega), List.getElem?_append_left (by omega)]
              · rw [List.getElem?_append_right (by omega), List.getElem?_append_right (by omega), show k - i - 1 - y.length = (k - j - 1) + 1 by omega, List.getElem?_cons_succ, List.getElem?_cons_succ]
    rw [e2, e1]
    refine List.Perm.append_left x ?_
    have p1 : (v :: (y ++ u :: z)).Perm (v :: u :: (y ++ z)) := (List.perm_middle).cons v
    have p2 : (u :: (y ++ v :: z)).Perm (u :: v :: (y ++ z)) := (List.perm_middle).cons u
    exact p1.trans ((List.Perm.swap u v (y ++ z)).trans p2.symm)
  rcases Nat.lt_trichotomy i j with h | h | h
  · exact key l i j hi hj h
  · subst h
    have : swp l i i = l := by
      apply ext_get (len_swp _ _ _)
      intro k _
      rw [get_swp l hi hi]
      split
      · rename_i e; rw [e]
      · rfl
    rw [this]
  · have e : swp l i j = swp l j i := by
      apply ext_get (by rw [len_swp, len_swp])
      intro k _
      rw [get_swp l hi hj, get_swp l hj hi]
      by_cases h1 : k = j
      · rw [if_pos h1, if_neg (by omega), if_pos h1]
      · rw [if_neg h1, if_neg h1]
    rw [e]; exact key l j i hj hi h

/-- The places from a to b (b not among them) in another order, all others as they were. -/
structure Mv (a b : Nat) (l m : List α) : Prop where
  len : m.length = l.length
  perm : m.Perm l
  out : ∀ k, k < a ∨ b ≤ k → m[k]! = l[k]!
  inn : ∀ i, a ≤ i → i < b → ∃ j, a ≤ j ∧ j < b ∧ m[i]! = l[j]!
theorem Mv.refl (a b : Nat) (l : List α) : Mv a b l l := ⟨rfl, .refl _, fun _ _ => rfl, fun i h k => ⟨i, h, k, rfl⟩⟩
theorem Mv.trans {a b : Nat} {l m n : List α} (h : Mv a b l m) (k : Mv a b m n) : Mv a b l n :=
  ⟨k.len.trans h.len, k.perm.trans h.perm, fun i hi => (k.out i hi).trans (h.out i hi), fun i h1 h2 => by
    obtain ⟨j, j1, j2, e⟩ := k.inn i h1 h2
    obtain ⟨q, q1, q2, f⟩ := h.inn j j1 j2
    exact ⟨q, q1, q2, e.trans f⟩⟩
theorem Mv.mono {a b c d : Nat} {l m : List α} (h : Mv a b l m) (h1 : c ≤ a) (h2 : b ≤ d) : Mv c d l m :=
  ⟨h.len, h.perm, fun i hi => h.out i (by omega), fun i i1 i2 => by
    by_cases hi : a ≤ i ∧ i < b
    · obtain ⟨j, j1, j2, e⟩ := h.inn i hi.1 hi.2
      exact ⟨j, by omega, by omega, e⟩
    · exact ⟨i, i1, i2, h.out i (by omega)⟩⟩
theorem Mv.swp {a b i j : Nat} {l : List α} (hi : i < l.length) (hj : j < l.length) (h1 : a ≤ i) (h2 : i < b) (h3 : a ≤ j) (h4 : j < b) : Mv a b l (swp l i j) :=
  ⟨len_swp _ _ _, perm_swp l hi hj, fun k hk => by rw [get_swp l hi hj, if_neg (by omega), if_neg (by omega)], fun k k1 k2 => by
    rw [get_swp l hi hj]
    split
    · exact ⟨i, h1, h2, rfl⟩
    · split
      · exact ⟨j, h3, h4, rfl⟩
      · exact ⟨k, k1, k2, rfl⟩⟩

/-- An order, as 'less'. -/
structure Ord (lt : α → α → Bool) : Prop where
  asym : ∀ x y, lt x y = true → lt y x = false
  tr : ∀ x y z, lt y x = false → lt z y = false → lt z x = false
/-- From a to b no place has less than one ahead of it. -/
def Srt (lt : α → α → Bool) (a b : Nat) (l : List α) : Prop := ∀ i j, a ≤ i → i < j → j < b → lt l[j]! l[i]! = false
theorem Srt.part {lt : α → α → Bool} {a b c d : Nat} {l : List α} (h : Srt lt a b l) (h1 : a ≤ c) (h2 : d ≤ b) : Srt lt c d l := fun i j i1 i2 i3 => h i j (by omega) i2 (by omega)
theorem Srt.out {lt : α → α → Bool} {a b c d : Nat} {l m : List α} (h : Srt lt c d l) (k : Mv a b l m) (hd : d ≤ a ∨ b ≤ c) : Srt lt c d m := fun i j i1 i2 i3 => by
  rw [k.out i (by omega), k.out j (by omega)]; exact h i j i1 i2 i3

/-! ### Insertion -/
/-- Within the insertion of place i into a .. i, the walking one at j; l0 is what the whole began with. -/
structure Ins (lt : α → α → Bool) (a b : Nat) (l0 : List α) (i j : Nat) (l : List α) : Prop where
  mv : Mv a b l0 l
  aj : a ≤ j
  ji : j ≤ i
  ib : i < b
  rest : ∀ p q, a ≤ p → p < q → q ≤ i → p ≠ j → q ≠ j → lt l[q]! l[p]! = false
  up : ∀ q, j < q → q ≤ i → lt l[q]! l[j]! = false
  same : Srt lt a b l0 → l = l0
/-- Between two insertions: a .. i is in order. -/
structure Outs (lt : α → α → Bool) (a b : Nat) (l0 : List α) (i : Nat) (l : List α) : Prop where
  mv : Mv a b l0 l
  srt : Srt lt a i l
  same : Srt lt a b l0 → l = l0
theorem Outs.start {lt : α → α → Bool} {a b : Nat} {l : List α} : Outs lt a b l (a + 1) l := ⟨.refl _ _ _, fun i j h1 h2 h3 => by omega, fun _ => rfl⟩
theorem Outs.into {lt : α → α → Bool} {a b i : Nat} {l0 l : List α} (h : Outs lt a b l0 i l) (hi : i < b) (ha : a ≤ i) : Ins lt a b l0 i i l :=
  ⟨h.mv, ha, Nat.le_refl _, hi, fun p q h1 h2 h3 h4 h5 => h.srt p q h1 h2 (by omega), fun q h1 h2 => by omega, h.same⟩
theorem Ins.step {lt : α → α → Bool} (o : Ord lt) {a b i j : Nat} {l0 l : List α} (h : Ins lt a b l0 i (j + 1) l) (hb : b ≤ l0.length) (ha : a < j + 1) (hl : lt l[j + 1]! l[j]! = true) : Ins lt a b l0 i j (swp l (j + 1) j) := by
  have hL := h.mv.len
  have h1 := h.ji; have h2 := h.ib
  have g := get_swp l (i := j + 1) (j := j) (by omega) (by omega)
  have s1 : (swp l (j + 1) j)[j]! = l[j + 1]! := by rw [g, if_pos rfl]
  have s2 : (swp l (j + 1) j)[j + 1]! = l[j]! := by rw [g, if_neg (by omega), if_pos rfl]
  have s3 : ∀ k, k ≠ j → k ≠ j + 1 → (swp l (j + 1) j)[k]! = l[k]! := fun k k1 k2 => by rw [g, if_neg k1, if_neg k2]
  refine ⟨h.mv.trans (.swp (by omega) (by omega) (by omega) (by omega) (by omega) (by omega)), by omega, by omega, h2, ?_, ?_, ?_⟩
  · intro p q p1 p2 p3 p4 p5
    by_cases e1 : p = j + 1
    · subst e1
      rw [s2, s3 q p5 (by omega)]
      exact h.rest j q (by omega) (by omega) p3 (by omega) (by omega)
    · rw [s3 p p4 e1]
      by_cases e2 : q = j + 1
      · subst e2
        rw [s2]
        exact h.rest p j p1 (by omega) (by omega) e1 (by omega)
      · rw [s3 q p5 e2]
        exact h.rest p q p1 p2 p3 e1 e2
  · intro q q1 q2
    rw [s1]
    by_cases e : q = j + 1
    · subst e; rw [s2]; exact o.asym _ _ hl
    · rw [s3 q (by omega) e]; exact h.up q (by omega) q2
  · intro hs
    have e := h.same hs
    rw [e] at hl
    have := hs j (j + 1) (by omega) (by omega) (by omega)
    rw [this] at hl; cases hl
theorem Ins.stop {lt : α → α → Bool} (o : Ord lt) {a b i j : Nat} {l0 l : List α} (h : Ins lt a b l0 i j l) (hs : j = a ∨ lt l[j]! l[j - 1]! = false) : Outs lt a b l0 (i + 1) l := by
  refine ⟨h.mv, ?_, h.same⟩
  intro p q p1 p2 p3
  have h1 := h.aj
  by_cases e1 : p = j
  · subst e1; exact h.up q p2 (by omega)
  · by_cases e2 : q = j
    · subst e2
      rcases hs with e | e
      · omega
      · by_cases e3 : p = q - 1
        · subst e3; exact e
        · exact o.tr _ _ _ (h.rest p (q - 1) p1 (by omega) (by have := h.ji; omega) e1 (by omega)) e
    · exact h.rest p q p1 p2 (by omega) e1 e2
theorem Outs.done {lt : α → α → Bool} {a b i : Nat} {l0 l : List α} (h : Outs lt a b l0 i l) (hi : b ≤ i) : Mv a b l0 l ∧ Srt lt a b l ∧ (Srt lt a b l0 → l = l0) := ⟨h.mv, h.srt.part (Nat.le_refl _) hi, h.same⟩

/-! ### Two parts exchanged; a rotation -/
/-- n places from a on and n from b on exchanged. -/
structure SwR (a b n : Nat) (l m : List α) : Prop where
  len : m.length = l.length
  perm : m.Perm l
  get : ∀ k, m[k]! = if a ≤ k ∧ k < a + n then l[b + (k - a)]! else if b ≤ k ∧ k < b + n then l[a + (k - b)]! else l[k]!
theorem SwR.zero (a b : Nat) (l : List α) : SwR a b 0 l l := ⟨rfl, .refl _, fun k => by rw [if_neg (by omega), if_neg (by omega)]⟩
theorem SwR.step {a b n : Nat} {l m : List α} (h : SwR a b n l m) (h1 : a + n < b) (h2 : b + n < l.length) : SwR a b (n + 1) l (swp m (a + n) (b + n)) := by
  have hL := h.len
  refine ⟨by rw [len_swp, hL], (perm_swp m (by omega) (by omega)).trans h.perm, fun k => ?_⟩
  rw [get_swp m (by omega) (by omega)]
  by_cases e1 : k = b + n
  · subst e1
    rw [if_pos rfl, h.get, if_neg (by omega), if_neg (by omega), if_neg (by omega), if_pos (by omega)]
    congr 1; omega
  · rw [if_neg e1]
    by_cases e2 : k = a + n
    · subst e2
      rw [if_pos rfl, h.get, if_neg (by omega), if_neg (by omega), if_pos (by omega)]
      congr 1; omega
    · rw [if_neg e2, h.get]
      by_cases e3 : a ≤ k ∧ k < a + n
      · rw [if_pos e3, if_pos (by omega)]
      · rw [if_neg e3]
        by_cases e4 : b ≤ k ∧ k < b + n
        · rw [if_pos e4, if_neg (by omega), if_pos (by omega)]
        · rw [if_neg e4, if_neg (by omega), if_neg (by omega)]
/-- The part from a to m set behind the one from m to b. -/
def Rot (a m b : Nat) (l r : List α) : Prop := ∀ k, r[k]! = if a ≤ k ∧ k < a + (b - m) then l[k + (m - a)]! else if a + (b - m) ≤ k ∧ k < b then l[k - (b - m)]! else l[k]!
/-- Within a rotation: i and j are still to be exchanged about m. -/
structure Rt (a m b : Nat) (l0 : List α) (i j : Nat) (l : List α) : Prop where
  len : l.length = l0.length
  perm : l.Perm l0
  hi : 0 < i
  hj : 0 < j
  ia : a + i ≤ m
  jb : m + j ≤ b
  rot : ∀ r, Rot (m - i) m (m + j) l r → Rot a m b l0 r
theorem Rt.start {a m b : Nat} {l : List α} (h1 : a < m) (h2 : m < b) : Rt a m b l (m - a) (b - m) l :=
  ⟨rfl, .refl _, by omega, by omega, by omega, by omega, fun r h => by rwa [show m - (m - a) = a by omega, show m + (b - m) = b by omega] at h⟩
theorem Rt.left {a m b i j : Nat} {l0 l l' : List α} (h : Rt a m b l0 i j l) (hij : j < i) (hs : SwR (m - i) m j l l') : Rt a m b l0 (i - j) j l' := by
  have h1 := h.ia; have h2 := h.jb; have h3 := h.hj
  refine ⟨hs.len.trans h.len, hs.perm.trans h.perm, by omega, h3, by omega, h2, fun r hr => h.rot r ?_⟩
  intro k
  rw [hr k]
  by_cases e1 : m - i ≤ k ∧ k < m - i + (m + j - m)
  · rw [if_pos e1, if_neg (by omega), if_neg (by omega), hs.get, if_pos (by omega)]
    congr 1; omega
  · rw [if_neg e1]
    by_cases e2 : m - i + (m + j - m) ≤ k ∧ k < m + j
    · rw [if_pos e2]
      by_cases e3 : m - (i - j) ≤ k ∧ k < m - (i - j) + (m + j - m)
      · rw [if_pos e3, hs.get, if_neg (by omega), if_pos (by omega)]
        congr 1; omega
      · rw [if_neg e3, if_pos (by omega), hs.get, if_neg (by omega), if_neg (by omega)]
    · rw [if_neg e2, if_neg (by omega), if_neg (by omega), hs.get, if_neg (by omega), if_neg (by omega)]
theorem Rt.right {a m b i j : Nat} {l0 l l' : List α} (h : Rt a m b l0 i j l) (hij : i < j) (hs : SwR (m - i) (m + j - i) i l l') : Rt a m b l0 i (j - i) l' := by
  have h1 := h.ia; have h2 := h.jb; have h3 := h.hi
  refine ⟨hs.len.trans h.len, hs.perm.trans h.perm, h3, by omega, h1, by omega, fun r hr => h.rot r ?_⟩
  intro k
  rw [hr k]
  by_cases e1 : m - i ≤ k ∧ k < m - i + (m + j - m)
  · rw [if_pos e1]
    by_cases e3 : m - i ≤ k ∧ k < m - i + (m + (j - i) - m)
    · rw [if_pos e3, hs.get, if_neg (by omega), if_neg (by omega)]
    · rw [if_neg e3, if_pos (by omega), hs.get, if_pos (by omega)]
      congr 1; omega
  · rw [if_neg e1]
    by_cases e2 : m - i + (m + j - m) ≤ k ∧ k < m + j
    · rw [if_pos e2, if_neg (by omega), if_neg (by omega), hs.get, if_neg (by omega), if_pos (by omega)]
      congr 1; omega
    · rw [if_neg e2, if_neg (by omega), if_neg (by omega), hs.get, if_neg (by omega), if_neg (by omega)]
theorem Rt.last {a m b i : Nat} {l0 l l' : List α} (h : Rt a m b l0 i i l) (hs : SwR (m - i) m i l l') : Rot a m b l0 l' ∧ l'.Perm l0 ∧ l'.length = l0.length := by
  have h1 := h.ia; have h2 := h.jb; have h3 := h.hi
  refine ⟨h.rot l' ?_, hs.perm.trans h.perm, hs.len.trans h.len⟩
  intro k
  rw [hs.get]
  by_cases e1 : m - i ≤ k ∧ k < m - i + i
  · rw [if_pos e1, if_pos (by omega)]; congr 1; omega
  · rw [if_neg e1]
    by_cases e2 : m ≤ k ∧ k < m + i
    · rw [if_pos e2, if_neg (by omega), if_pos (by omega)]; congr 1; omega
    · rw [if_neg e2, if_neg (by omega), if_neg (by omega)]
theorem Rot.mv {a m b : Nat} {l r : List α} (h : Rot a m b l r) (hp : r.Perm l) (hl : r.length = l.length) (h1 : a ≤ m) (h2 : m ≤ b) : Mv a b l r :=
  ⟨hl, hp, fun k hk => by rw [h k, if_neg (by omega), if_neg (by omega)], fun i i1 i2 => by
    rw [h i]
    by_cases e : a ≤ i ∧ i < a + (b - m)
    · rw [if_pos e]; exact ⟨_, by omega, by omega, rfl⟩
    · rw [if_neg e, if_pos (by omega)]; exact ⟨_, by omega, by omega, rfl⟩⟩

/-! ### Merging -/
/-- What a merge promises. -/
structure Mrg (lt : α → α → Bool) (a b : Nat) (l m : List α) : Prop where
  mv : Mv a b l m
  srt : Srt lt a b m
  same : Srt lt a b l → m = l
/-- One that goes up, to place i - 1: at k. -/
structure Up (a i k : Nat) (l0 l : List α) : Prop where
  len : l.length = l0.length
  perm : l.Perm l0
  get : ∀ q, l[q]! = if a ≤ q ∧ q < k then l0[q + 1]! else if q = k then l0[a]! else l0[q]!
theorem Up.start (a i : Nat) (l : List α) : Up a i a l l := ⟨rfl, .refl _, fun q => by rw [if_neg (by omega)]; split <;> simp_all⟩
theorem Up.step {a i k : Nat} {l0 l : List α} (h : Up a i k l0 l) (ha : a ≤ k) (hk : k + 1 < l0.length) : Up a i (k + 1) l0 (swp l k (k + 1)) := by
  have hL := h.len
  refine ⟨by rw [len_swp, hL], (perm_swp l (by omega) (by omega)).trans h.perm, fun q => ?_⟩
  rw [get_swp l (by omega) (by omega)]
  by_cases e1 : q = k + 1
  · subst e1
    rw [if_pos rfl, h.get, if_neg (by omega), if_pos rfl, if_neg (by omega), if_pos rfl]
  · rw [if_neg e1]
    by_cases e2 : q = k
    · subst e2
      rw [if_pos rfl, h.get, if_neg (by omega), if_neg (by omega), if_pos (by omega)]
    · rw [if_neg e2, h.get]
      by_cases e3 : a ≤ q ∧ q < k
      · rw [if_pos e3, if_pos (by omega)]
      · rw [if_neg e3, if_neg e2, if_neg (by omega), if_neg e1]
/-- One that goes down from m: at k. -/
structure Down (m k : Nat) (l0 l : List α) : Prop where
  len : l.length = l0.length
  perm : l.Perm l0
  get : ∀ q, l[q]! = if k < q ∧ q ≤ m then l0[q - 1]! else if q = k then l0[m]! else l0[q]!
theorem Down.start (m : Nat) (l : List α) : Down m m l l := ⟨rfl, .refl _, fun q => by rw [if_neg (by omega)]; split <;> simp_all⟩
theorem Down.step {m k : Nat} {l0 l : List α} (h : Down m (k + 1) l0 l) (hk : k + 1 ≤ m) (hm : m < l0.length) : Down m k l0 (swp l (k + 1) k) := by
  have hL := h.len
  refine ⟨by rw [len_swp, hL], (perm_swp l (by omega) (by omega)).trans h.perm, fun q => ?_⟩
  rw [get_swp l (by omega) (by omega)]
  by_cases e1 : q = k
  · subst e1
    rw [if_pos rfl, h.get, if_neg (by omega), if_pos rfl, if_neg (by omega), if_pos rfl]
  · rw [if_neg e1]
    by_cases e2 : q = k + 1
    · subst e2
      rw [if_pos rfl, h.get, if_neg (by omega), if_neg (by omega), if_pos (by omega)]
      rfl
    · rw [if_neg e2, h.get]
      by_cases e3 : k + 1 < q ∧ q ≤ m
      · rw [if_pos e3, if_pos (by omega)]
      · rw [if_neg e3, if_neg e2, if_neg (by omega), if_neg e1]
theorem mrg_up {lt : α → α → Bool} (o : Ord lt) {a b i : Nat} {l r : List α} (h : Up a i (i - 1) l r) (h1 : a + 1 ≤ i) (h2 : i ≤ b) (hs : Srt lt (a + 1) b l)
    (lo : ∀ q, a + 1 ≤ q → q < i → lt l[q]! l[a]! = true) (hi : ∀ q, i ≤ q → q < b → lt l[q]! l[a]! = false) : Mrg lt a b l r := by
  refine ⟨⟨h.len, h.perm, fun k hk => by rw [h.get, if_neg (by omega)]; split
                                         · rename_i e; have : a = k := by omega
                                           rw [this]
                                         · rfl, ?_⟩, ?_, ?_⟩
  · intro q q1 q2
    rw [h.get]
    split
    · exact ⟨q + 1, by omega, by omega, rfl⟩
    · split
      · exact ⟨a, by omega, by omega, rfl⟩
      · exact ⟨q, q1, q2, rfl⟩
  · intro p q p1 p2 p3
    rw [h.get, h.get]
    by_cases e1 : a ≤ p ∧ p < i - 1
    · rw [if_pos e1]
      by_cases e2 : a ≤ q ∧ q < i - 1
      · rw [if_pos e2]; exact hs _ _ (by omega) (by omega) (by omega)
      · rw [if_neg e2]
        by_cases e3 : q = i - 1
        · rw [if_pos e3]; exact o.asym _ _ (lo (p + 1) (by omega) (by omega))
        · rw [if_neg e3]; exact hs _ _ (by omega) (by omega) (by omega)
    · rw [if_neg e1, if_neg (show ¬ (a ≤ q ∧ q < i - 1) by omega)]
      by_cases e3 : p = i - 1
      · rw [if_pos e3, if_neg (by omega)]; exact hi q (by omega) p3
      · rw [if_neg e3, if_neg (by omega)]; exact hs _ _ (by omega) p2 p3
  · intro hs0
    have e : i = a + 1 := by
      rcases Nat.lt_or_ge (a + 1) i with h3 | h3
      · have := lo (a + 1) (by omega) h3
        rw [hs0 a (a + 1) (by omega) (by omega) (by omega)] at this; cases this
      · omega
    apply ext_get h.len
    intro k _
    rw [h.get, if_neg (by omega)]
    split
    · rename_i e2; rw [e2, e]; rfl
    · rfl
theorem mrg_down {lt : α → α → Bool} (o : Ord lt) {a m i : Nat} {l r : List α} (h : Down m i l r) (h1 : a ≤ i) (h2 : i ≤ m) (hs : Srt lt a m l)
    (lo : ∀ q, a ≤ q → q < i → lt l[m]! l[q]! = false) (hi : ∀ q, i ≤ q → q < m → lt l[m]! l[q]! = true) : Mrg lt a (m + 1) l r := by
  refine ⟨⟨h.len, h.perm, fun k hk => by rw [h.get, if_neg (by omega)]; split
                                         · rename_i e; have : m = k := by omega
                                           rw [this]
                                         · rfl, ?_⟩, ?_, ?_⟩
  · intro q q1 q2
    rw [h.get]
    split
    · exact ⟨q - 1, by omega, by omega, rfl⟩
    · split
      · exact ⟨m, by omega, by omega, rfl⟩
      · exact ⟨q, q1, q2, rfl⟩
  · intro p q p1 p2 p3
    rw [h.get, h.get]
    by_cases e1 : i < p ∧ p ≤ m
    · rw [if_pos e1, if_pos (by omega)]; exact hs _ _ (by omega) (by omega) (by omega)
    · rw [if_neg e1]
      by_cases e3 : p = i
      · rw [if_pos e3, if_pos (by omega)]
        exact o.asym _ _ (hi _ (by omega) (by omega))
      · rw [if_neg e3]
        by_cases e2 : i < q ∧ q ≤ m
        · rw [if_pos e2]; exact hs _ _ (by omega) (by omega) (by omega)
        · rw [if_neg e2]
          by_cases e4 : q = i
          · rw [if_pos e4]; exact lo p p1 (by omega)
          · rw [if_neg e4]; exact hs _ _ (by omega) (by omega) (by omega)
  · intro hs0
    have e : i = m := by
      rcases Nat.lt_or_ge i m with h3 | h3
      · have := hi i (by omega) h3
        rw [hs0 i m (by omega) h3 (by omega)] at this; cases this
      · omega
    apply ext_get h.len
    intro k _
    rw [h.get, if_neg (by omega)]
    split
    · rename_i e2; rw [e2, e]
    · rfl
/-- Where the search in two parts ends: start. -/
structure Half (lt : α → α → Bool) (a m b mid start : Nat) (l : List α) : Prop where
  am : a < m
  mb : m < b
  lo : a ≤ start
  hi : start ≤ m
  smid : start ≤ mid
  amid : a ≤ mid
  bmid : mid ≤ b
  en : mid + m - start ≤ b
  bel : a < start → mid + m - start < b → lt l[mid + m - start]! l[start - 1]! = false
  abv : start < m → m < mid + m - start → lt l[mid + m - start - 1]! l[start]! = true
/-- Behind the rotation all that stands ahead of mid is not above what stands behind. -/
theorem Half.cut {lt : α → α → Bool} (o : Ord lt) {a m b mid start : Nat} {l r : List α} (h : Half lt a m b mid start l) (h1 : Srt lt a m l) (h2 : Srt lt m b l)
    (hr : (start < m ∧ m < mid + m - start → Rot start m (mid + m - start) l r) ∧ (¬ (start < m ∧ m < mid + m - start) → r = l)) :
    Srt lt a start r ∧ Srt lt start mid r ∧ Srt lt mid (mid + m - start) r ∧ Srt lt (mid + m - start) b r ∧ ∀ p q, a ≤ p → p < mid → mid ≤ q → q < b → lt r[q]! r[p]! = false := by
  obtain ⟨am, mb, lo, hi, smid, amid, bmid, en, bel, abv⟩ := h
  have R : Rot start m (mid + m - start) l r := by
    by_cases c : start < m ∧ m < mid + m - start
    · exact hr.1 c
    · rw [hr.2 c]
      intro k
      by_cases e1 : start ≤ k ∧ k < start + (mid + m - start - m)
      · have : start = m := by omega
        rw [if_pos e1]; congr 1; omega
      · rw [if_neg e1]
        split
        · congr 1; omega
        · rfl
  clear hr
  have rA : ∀ k, k < start → r[k]! = l[k]! := fun k hk => by rw [R k, if_neg (by omega), if_neg (by omega)]
  have rB : ∀ k, start ≤ k → k < mid → r[k]! = l[k + (m - start)]! := fun k k1 k2 => by rw [R k, if_pos (by omega)]
  have rC : ∀ k, mid ≤ k → k < mid + m - start → r[k]! = l[k - (mid - start)]! := fun k k1 k2 => by
    rw [R k, if_neg (by omega), if_pos (by omega)]; congr 1; omega
  have rD : ∀ k, mid + m - start ≤ k → r[k]! = l[k]! := fun k hk => by rw [R k, if_neg (by omega), if_neg (by omega)]
  clear R
  refine ⟨?_, ?_, ?_, ?_, ?_⟩
  · intro p q p1 p2 p3; rw [rA p (by omega), rA q (by omega)]; exact h1 p q p1 p2 (by omega)
  · intro p q p1 p2 p3; rw [rB p (by omega) (by omega), rB q (by omega) (by omega)]; exact h2 _ _ (by omega) (by omega) (by omega)
  · intro p q p1 p2 p3; rw [rC p (by omega) (by omega), rC q (by omega) (by omega)]; exact h1 _ _ (by omega) (by omega) (by omega)
  · intro p q p1 p2 p3; rw [rD p (by omega), rD q (by omega)]; exact h2 _ _ (by omega) (by omega) (by omega)
  · intro p q p1 p2 p3 p4
    by_cases e1 : p < start
    · rw [rA p e1]
      by_cases e2 : q < mid + m - start
      · rw [rC q p3 e2]; exact h1 _ _ p1 (by omega) (by omega)
      · rw [rD q (by omega)]
        have b1 := bel (by omega) (by omega)
        have b2 : lt l[q]! l[start - 1]! = false := by
          by_cases e3 : q = mid + m - start
          · rw [e3]; exact b1
          · exact o.tr _ _ _ b1 (h2 _ _ (by omega) (by omega) p4)
        by_cases e3 : p = start - 1
        · rw [e3]; exact b2
        · exact o.tr _ _ _ (h1 p (start - 1) p1 (by omega) (by omega)) b2
    · rw [rB p (by omega) p2]
      by_cases e2 : q < mid + m - start
      · rw [rC q p3 e2]
        have b1 := o.asym _ _ (abv (by omega) (by omega))
        have b2 : lt l[start]! l[p + (m - start)]! = false := by
          by_cases e3 : p + (m - start) = mid + m - start - 1
          · rw [e3]; exact b1
          · exact o.tr _ _ _ (h2 (p + (m - start)) (mid + m - start - 1) (by omega) (by omega) (by omega)) b1
        by_cases e3 : q - (mid - start) = start
        · rw [e3]; exact b2
        · exact o.tr _ _ _ b2 (h1 start _ (by omega) (by omega) (by omega))
      · rw [rD q (by omega)]; exact h2 _ _ (by omega) (by omega) p4
/-- Both halves merged: the whole is. -/
theorem mrg_halves {lt : α → α → Bool} {a mid b : Nat} {r s t : List α} (h1 : Mrg lt a mid r s) (h2 : Mrg lt mid b s t) (ha : a ≤ mid) (hb : mid ≤ b)
    (hx : ∀ p q, a ≤ p → p < mid → mid ≤ q → q < b → lt r[q]! r[p]! = false) : Mv a b r t ∧ Srt lt a b t := by
  refine ⟨(h1.mv.mono (Nat.le_refl _) hb).trans (h2.mv.mono ha (Nat.le_refl _)), ?_⟩
  intro p q p1 p2 p3
  by_cases e1 : q < mid
  · rw [h2.mv.out q (by omega), h2.mv.out p (by omega)]; exact h1.srt p q p1 p2 e1
  · by_cases e2 : p < mid
    · rw [h2.mv.out p (by omega)]
      obtain ⟨x, x1, x2, e⟩ := h2.mv.inn q (by omega) p3
      obtain ⟨y, y1, y2, f⟩ := h1.mv.inn p p1 e2
      rw [e, f, h1.mv.out x (by omega)]
      exact hx y x y1 y2 x1 x2
    · exact h2.srt p q (by omega) p2 p3
theorem Mrg.none {lt : α → α → Bool} {a b : Nat} {l : List α} (h : Srt lt a b l) : Mrg lt a b l l := ⟨.refl _ _ _, h, fun _ => rfl⟩
theorem Srt.one {lt : α → α → Bool} {a m b : Nat} {l : List α} (h1 : Srt lt a m l) (h2 : Srt lt m b l) (h : ¬ (a < m ∧ m < b)) : Srt lt a b l := by
  intro p q p1 p2 p3
  by_cases e : a < m
  · exact h1 p q p1 p2 (by omega)
  · exact h2 p q (by omega) p2 p3
/-- Sorted already: nothing is rotated. -/
theorem Half.still {lt : α → α → Bool} {a m b mid start : Nat} {l : List α} (h : Half lt a m b mid start l) (hs : Srt lt a b l) : ¬ (start < m ∧ m < mid + m - start) := by
  intro c
  have := h.abv c.1 c.2
  rw [hs start (mid + m - start - 1) h.lo (by omega) (by have := h.en; omega)] at this
  cases this
theorem mrg_sym {lt : α → α → Bool} (o : Ord lt) {a m b mid start : Nat} {l r s t : List α} (h : Half lt a m b mid start l) (h1 : Srt lt a m l) (h2 : Srt lt m b l)
    (hr : (start < m ∧ m < mid + m - start → Rot start m (mid + m - start) l r ∧ r.Perm l ∧ r.length = l.length) ∧ (¬ (start < m ∧ m < mid + m - start) → r = l))
    (hs : Mrg lt a mid r s) (ht : Mrg lt mid b s t) : Mrg lt a b l t := by
  obtain ⟨_, _, _, _, hx⟩ := h.cut o h1 h2 ⟨fun c => (hr.1 c).1, hr.2⟩
  obtain ⟨q1, q2⟩ := mrg_halves hs ht h.amid h.bmid hx
  have q3 : Mv a b l r := by
    by_cases c : start < m ∧ m < mid + m - start
    · obtain ⟨c1, c2, c3⟩ := hr.1 c
      exact (c1.mv c2 c3 (by omega) (by omega)).mono h.lo h.en
    · rw [hr.2 c]; exact .refl _ _ _
  refine ⟨q3.trans q1, q2, fun hs0 => ?_⟩
  have e := hr.2 (h.still hs0)
  subst e
  have e2 := hs.same (hs0.part (Nat.le_refl _) h.bmid)
  subst e2
  exact ht.same (hs0.part h.amid (Nat.le_refl _))

/-! ### Searching -/
/-- A search among the places c .. d for the first one of which p says no: between i and j. -/
structure Srch (p : Nat → Bool) (c d i j : Nat) : Prop where
  ci : c ≤ i
  ij : i ≤ j
  jd : j ≤ d
  lo : ∀ q, c ≤ q → q < i → p q = true
  hi : ∀ q, j ≤ q → q < d → p q = false
theorem Srch.start {p : Nat → Bool} {c d : Nat} (h : c ≤ d) : Srch p c d c d := ⟨Nat.le_refl _, h, Nat.le_refl _, fun q h1 h2 => by omega, fun q h1 h2 => by omega⟩
theorem Srch.yes {p : Nat → Bool} {c d i j h : Nat} (s : Srch p c d i j) (h1 : i ≤ h) (h2 : h < j) (hp : p h = true) (mono : ∀ q r, c ≤ q → q < r → r < d → p r = true → p q = true) : Srch p c d (h + 1) j := by
  have a1 := s.ci; have a2 := s.jd
  refine ⟨by omega, by omega, a2, fun q q1 q2 => ?_, s.hi⟩
  by_cases e : q = h
  · rw [e]; exact hp
  · exact mono q h q1 (by omega) (by omega) hp
theorem Srch.no {p : Nat → Bool} {c d i j h : Nat} (s : Srch p c d i j) (h1 : i ≤ h) (h2 : h < j) (hp : p h = false) (mono : ∀ q r, c ≤ q → q < r → r < d → p r = true → p q = true) : Srch p c d i h := by
  have a1 := s.ci; have a2 := s.jd
  refine ⟨a1, by omega, by omega, s.lo, fun q q1 q2 => ?_⟩
  by_cases e : q = h
  · rw [e]; exact hp
  · cases e2 : p q with
    | false => rfl
    | true => rw [mono h q (by omega) (by omega) q2 e2] at hp; cases hp
theorem mono_up {lt : α → α → Bool} (o : Ord lt) {c d : Nat} {l : List α} (x : α) (hs : Srt lt c d l) : ∀ q r, c ≤ q → q < r → r < d → lt l[r]! x = true → lt l[q]! x = true := fun q r h1 h2 h3 h4 => by
  cases e : lt l[q]! x with
  | true => rfl
  | false => rw [o.tr _ _ _ e (hs q r h1 h2 h3)] at h4; cases h4
theorem mono_down {lt : α → α → Bool} (o : Ord lt) {c d : Nat} {l : List α} (x : α) (hs : Srt lt c d l) : ∀ q r, c ≤ q → q < r → r < d → (!lt x l[r]!) = true → (!lt x l[q]!) = true := fun q r h1 h2 h3 h4 => by
  rw [Bool.not_eq_true'] at h4 ⊢
  cases e : lt x l[q]! with
  | false => rfl
  | true =>
    have e1 := o.asym _ _ e
    exfalso
    have e2 := o.tr _ _ _ (hs q r h1 h2 h3) h4
    rw [e2] at e; cases e
theorem mono_both {lt : α → α → Bool} (o : Ord lt) {a m b n c d : Nat} {l : List α} (h1 : Srt lt a m l) (h2 : Srt lt m b l) (hc : a ≤ c) (hd : d ≤ m) (hn : d + m ≤ n) (hb : n ≤ b + c) :
    ∀ q r, c ≤ q → q < r → r < d → (!lt l[n - 1 - r]! l[r]!) = true → (!lt l[n - 1 - q]! l[q]!) = true := fun q r q1 q2 q3 h4 => by
  rw [Bool.not_eq_true'] at h4 ⊢
  have e1 := h1 q r (by omega) q2 (by omega)
  have e2 := h2 (n - 1 - r) (n - 1 - q) (by omega) (by omega) (by omega)
  exact o.tr _ _ _ (o.tr _ _ _ e1 h4) e2
theorem Half.of {lt : α → α → Bool} {a m b mid c d start : Nat} {l : List α} (am : a < m) (mb : m < b) (hm : a < mid) (hb : mid < b)
    (hc : (mid < m ∧ c = mid + m - b ∧ d = mid) ∨ (m ≤ mid ∧ c = a ∧ d = m)) (h3 : a + b ≤ mid + mid + 1) (h4 : mid + mid ≤ a + b) (s : Srch (fun q => !lt l[mid + m - 1 - q]! l[q]!) c d start start) : Half lt a m b mid start l := by
  have s1 := s.ci; have s2 := s.jd
  have lo := s.lo; have hi := s.hi
  refine ⟨am, mb, by omega, by omega, by omega, by omega, by omega, by omega, fun e1 e2 => ?_, fun e1 e2 => ?_⟩
  · have := lo (start - 1) (by omega) (by omega)
    simp only [Bool.not_eq_true'] at this
    rw [← this]; congr 2; omega
  · have := hi start (Nat.le_refl _) (by omega)
    simp only [Bool.not_eq_false'] at this
    rw [← this]; congr 2; omega

/-! ### Blocks -/
/-- Within each block of s places, up to e, in order. -/
def Blk (lt : α → α → Bool) (s e : Nat) (l : List α) : Prop := ∀ i j, i < j → j < e → i / s = j / s → lt l[j]! l[i]! = false
theorem Blk.all {lt : α → α → Bool} {s e : Nat} {l : List α} (h : Blk lt s e l) (he : e ≤ s) : Srt lt 0 e l := fun i j _ h2 h3 => h i j h2 h3 (by rw [Nat.div_eq_of_lt (by omega), Nat.div_eq_of_lt (by omega)])
theorem Blk.zero {lt : α → α → Bool} {s : Nat} {l : List α} : Blk lt s 0 l := fun i j _ h2 _ => by omega
theorem Blk.part {lt : α → α → Bool} {s e q : Nat} {l : List α} (h : Blk lt s e l) {c d : Nat} (hc : c = q * s) (hd : d ≤ c + s) (he : d ≤ e) : Srt lt c d l := fun i j h1 h2 h3 => by
  refine h i j h2 (by omega) ?_
  subst hc
  have e1 : i / s = q := Nat.div_eq_of_lt_le h1 (by rw [Nat.succ_mul]; omega)
  have e2 : j / s = q := Nat.div_eq_of_lt_le (by omega) (by rw [Nat.succ_mul]; omega)
  rw [e1, e2]
/-- One block more. -/
theorem Blk.more {lt : α → α → Bool} {s q a b : Nat} {l m : List α} (h : Blk lt s a l) (hs : 0 < s) (ha : a = q * s) (hb : b ≤ a + s) (hm : Mv a b l m) (hk : Srt lt a b m) : Blk lt s b m := fun i j h1 h2 h3 => by
  by_cases e : j < a
  · rw [hm.out i (by omega), hm.out j (by omega)]; exact h i j h1 e h3
  · by_cases e2 : a ≤ i
    · exact hk i j e2 h1 h2
    · exfalso
      have e3 : j / s = q := Nat.div_eq_of_lt_le (by omega) (by rw [Nat.succ_mul]; omega)
      have e4 : i / s < q := by rw [Nat.div_lt_iff_lt_mul hs]; omega
      omega
/-- What stands behind keeps its blocks. -/
theorem Blk.keep {lt : α → α → Bool} {s n a b : Nat} {l m : List α} (h : ∀ i j, a ≤ i → i < j → j < n → i / s = j / s → lt l[j]! l[i]! = false) (hm : Mv a b l m) (hb : a ≤ b) : ∀ i j, b ≤ i → i < j → j < n → i / s = j / s → lt m[j]! m[i]! = false := fun i j h1 h2 h3 h4 => by
  rw [hm.out i (by omega), hm.out j (by omega)]; exact h i j (by omega) h2 h3 h4
end Go.Proofs.Ytkkmbpcmkhikkaa.M
