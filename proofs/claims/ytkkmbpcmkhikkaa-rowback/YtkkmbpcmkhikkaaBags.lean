/- Orders of rows; bags of rows: by definition. -/
import Derived.Test.YtkkmbpcmkhikkaaDat
import Derived.Test.YtkkmbpcmkhikkaaSMath2
namespace Go.Proofs.Ytkkmbpcmkhikkaa.M

/-- A comparison is an order. -/
structure Cm {β : Type} (c : β → β → Int) : Prop where
  anti : ∀ x y, c y x = -c x y
  tr : ∀ x y z, c x y ≤ 0 → c y z ≤ 0 → c x z ≤ 0
theorem Cm.self {β : Type} {c : β → β → Int} (h : Cm c) (x : β) : c x x = 0 := by have := h.anti x x; omega
theorem Cm.tl {β : Type} {c : β → β → Int} (h : Cm c) {x y z : β} (h1 : c x y < 0) (h2 : c y z ≤ 0) : c x z < 0 := by
  rcases Int.lt_or_le (c x z) 0 with h3 | h3
  · exact h3
  · have e1 := h.anti x z
    have e2 := h.tr y z x h2 (by omega)
    have e3 := h.anti x y
    omega
theorem Cm.lt {β : Type} {c : β → β → Int} (h : Cm c) {x y z : β} (h1 : c x y ≤ 0) (h2 : c y z < 0) : c x z < 0 := by
  rcases Int.lt_or_le (c x z) 0 with h3 | h3
  · exact h3
  · have e1 := h.anti x z
    have e2 := h.tr z x y (by omega) h1
    have e3 := h.anti y z
    omega
theorem cm_cmp : Cm cmp := ⟨fun x y => (tot_cmp x y y).turn, fun x y z => (tot_cmp x y z).le⟩
theorem cmp_low (x y : V) : -1 ≤ cmp x y ∧ cmp x y ≤ 1 := ⟨(tot_cmp x y y).lo, (tot_cmp x y y).hi⟩
theorem Cm.list {β : Type} {c : β → β → Int} (h : Cm c) : Cm (lcmp c) := by
  constructor
  · intro x
    induction x with
    | nil => intro y; cases y <;> simp [lcmp]
    | cons a x ih =>
      intro y
      cases y with
      | nil => simp [lcmp]
      | cons b y =>
        have e := h.anti a b
        simp only [lcmp]
        by_cases e0 : c a b = 0
        · rw [if_pos e0, if_pos (by omega)]; exact ih y
        · rw [if_neg e0, if_neg (by omega)]; exact e
  · intro x
    induction x with
    | nil => intro y z _ _; cases z <;> simp [lcmp]
    | cons a x ih =>
      intro y z h1 h2
      cases y with
      | nil => simp [lcmp] at h1
      | cons b y =>
        cases z with
        | nil => simp [lcmp] at h2
        | cons d z =>
          simp only [lcmp] at h1 h2 ⊢
          by_cases e1 : c a b = 0
          · rw [if_pos e1] at h1
            by_cases e2 : c b d = 0
            · rw [if_pos e2] at h2
              have t1 := h.tr a b d (by omega) (by omega)
              have a1 := h.anti a b; have a2 := h.anti b d; have a3 := h.anti a d
              have t2 := h.tr d b a (by omega) (by omega)
              rw [if_pos (by omega)]
              exact ih y z h1 h2
            · rw [if_neg e2] at h2
              have := h.lt (x := a) (y := b) (z := d) (by omega) (by omega)
              rw [if_neg (by omega)]; omega
          · rw [if_neg e1] at h1
            have : c b d ≤ 0 := by
              by_cases e2 : c b d = 0
              · omega
              · rw [if_neg e2] at h2; exact h2
            have := h.tl (x := a) (y := b) (z := d) (by omega) this
            rw [if_neg (by omega)]; omega
theorem cm_rcmp : Cm rcmp := cm_cmp.list
/-- First by one, then by another one. -/
def lex {β : Type} (c d : β → β → Int) (x y : β) : Int := if c x y = 0 then d x y else c x y
theorem Cm.lex {β : Type} {c d : β → β → Int} (h : Cm c) (k : Cm d) : Cm (lex c d) := by
  constructor
  · intro x y
    unfold M.lex
    have e := h.anti x y
    by_cases e0 : c x y = 0
    · rw [if_pos e0, if_pos (by omega)]; exact k.anti x y
    · rw [if_neg e0, if_neg (by omega)]; exact e
  · intro x y z h1 h2
    unfold M.lex at h1 h2 ⊢
    by_cases e1 : c x y = 0
    · rw [if_pos e1] at h1
      by_cases e2 : c y z = 0
      · rw [if_pos e2] at h2
        have t1 := h.tr x y z (by omega) (by omega)
        have a1 := h.anti x y; have a2 := h.anti y z; have a3 := h.anti x z
        have t2 := h.tr z y x (by omega) (by omega)
        rw [if_pos (by omega)]
        exact k.tr x y z h1 h2
      · rw [if_neg e2] at h2
        have := h.lt (x := x) (y := y) (z := z) (by omega) (by omega)
        rw [if_neg (by omega)]; omega
    · rw [if_neg e1] at h1
      have : c y z ≤ 0 := by
        by_cases e2 : c y z = 0
        · omega
        · rw [if_neg e2] at h2; exact h2
      have := h.tl (x := x) (y := y) (z := z) (by omega) this
      rw [if_neg (by omega)]; omega
/-- The value in a place. -/
def at_ (r : List V) (p : Int) : V := if p < 0 ∨ (r.length : Int) ≤ p then V0 else r[p.toNat]?.getD V0
/-- By one key. -/
def kcmp (k : Int × Bool) (r s : List V) : Int := if k.2 then -cmp (at_ r k.1) (at_ s k.1) else cmp (at_ r k.1) (at_ s k.1)
def bycmp : List (Int × Bool) → List V → List V → Int
  | [], _, _ => 0
  | k :: o, r, s => lex (kcmp k) (bycmp o) r s
theorem cm_kcmp (k : Int × Bool) : Cm (kcmp k) := by
  constructor
  · intro x y
    unfold kcmp
    have := cm_cmp.anti (at_ x k.1) (at_ y k.1)
    split <;> omega
  · intro x y z h1 h2
    unfold kcmp at h1 h2 ⊢
    have a1 := cm_cmp.anti (at_ x k.1) (at_ y k.1)
    have a2 := cm_cmp.anti (at_ y k.1) (at_ z k.1)
    have a3 := cm_cmp.anti (at_ x k.1) (at_ z k.1)
    by_cases hd : k.2 = true
    · rw [if_pos hd] at h1 h2 ⊢
      have := cm_cmp.tr (at_ z k.1) (at_ y k.1) (at_ x k.1) (by omega) (by omega)
      omega
    · rw [if_neg hd] at h1 h2 ⊢
      exact cm_cmp.tr _ _ _ h1 h2
theorem cm_bycmp : ∀ o, Cm (bycmp o)
  | [] => ⟨fun _ _ => rfl, fun _ _ _ _ _ => Int.le_refl _⟩
  | k :: o => by
    have := (cm_kcmp k).lex (cm_bycmp o)
    exact ⟨this.anti, this.tr⟩
theorem bycmp_step {o : List (Int × Bool)} {i : Nat} {k : Int × Bool} (h : o[i]? = some k) (r s : List V) : bycmp (o.drop i) r s = if cmp (at_ r k.1) (at_ s k.1) = 0 then bycmp (o.drop (i + 1)) r s else if k.2 then -cmp (at_ r k.1) (at_ s k.1) else cmp (at_ r k.1) (at_ s k.1) := by
  obtain ⟨h1, e1⟩ := List.getElem?_eq_some_iff.1 h
  rw [List.drop_eq_getElem_cons h1, e1]
  show lex (kcmp k) (bycmp (o.drop (i + 1))) r s = _
  unfold lex kcmp
  by_cases hd : k.2 = true
  · by_cases e : cmp (at_ r k.1) (at_ s k.1) = 0
    · rw [if_pos (by rw [if_pos hd]; omega), if_pos e]
    · rw [if_neg (by rw [if_pos hd]; omega), if_neg e]
  · by_cases e : cmp (at_ r k.1) (at_ s k.1) = 0
    · rw [if_pos (by rw [if_neg hd]; omega), if_pos e]
    · rw [if_neg (by rw [if_neg hd]; omega), if_neg e]

/-! ### Rows in their one form -/
def pr (r : List V) : List V := r.map plain
theorem rcmp_eq : ∀ {r s : List V}, (∀ v ∈ r, v.Ok) → (∀ v ∈ s, v.Ok) → (rcmp r s = 0 ↔ pr r = pr s)
  | [], [], _, _ => by simp [rcmp, lcmp, pr]
  | [], y :: s, _, _ => by simp [rcmp, lcmp, pr]
  | x :: r, [], _, _ => by simp [rcmp, lcmp, pr]
  | x :: r, y :: s, hr, hs => by
    have e := cmp_eq (hr x (List.mem_cons_self ..)) (hs y (List.mem_cons_self ..))
    have ih := rcmp_eq (fun v h => hr v (List.mem_cons_of_mem _ h)) (fun v h => hs v (List.mem_cons_of_mem _ h))
    unfold rcmp at ih ⊢
    simp only [lcmp, pr, List.map_cons, List.cons.injEq]
    by_cases e0 : cmp x y = 0
    · rw [if_pos e0]
      exact ⟨fun h => ⟨e.1 e0, ih.1 h⟩, fun h => ih.2 h.2⟩
    · rw [if_neg e0]
      exact ⟨fun h => absurd h e0, fun h => absurd (e.2 h.1) e0⟩
theorem cmp_plain {u v : V} (hu : u.Ok) (hv : v.Ok) : cmp (plain u) (plain v) = cmp u v := by
  unfold cmp
  rw [plain_plain (plain_is hu), plain_plain (plain_is hv)]
theorem rcmp_pr : ∀ {r s : List V}, (∀ v ∈ r, v.Ok) → (∀ v ∈ s, v.Ok) → rcmp (pr r) (pr s) = rcmp r s
  | [], [], _, _ => rfl
  | [], y :: s, _, _ => rfl
  | x :: r, [], _, _ => rfl
  | x :: r, y :: s, hr, hs => by
    have e := cmp_plain (hr x (List.mem_cons_self ..)) (hs y (List.mem_cons_self ..))
    have ih := rcmp_pr (fun v h => hr v (List.mem_cons_of_mem _ h)) (fun v h => hs v (List.mem_cons_of_mem _ h))
    unfold rcmp pr at ih ⊢
    simp only [lcmp, List.map_cons, e, ih]

/-! ### Lists in order, and what they have -/
section
variable {β : Type} {c : β → β → Int}
/-- In order: none is above one behind it. -/
def Inc (c : β → β → Int) : List β → Prop
  | [] => True
  | x :: l => (∀ y ∈ l, c x y ≤ 0) ∧ Inc c l
theorem inc_perm (h : Cm c) : ∀ {l m : List β}, (∀ x ∈ l, ∀ y ∈ l, c x y = 0 → x = y) → l.Perm m → Inc c l → Inc c m → l = m
  | [], m, _, hp, _, _ => (List.nil_perm.1 hp).symm
  | x :: l, [], _, hp, _, _ => by have := hp.length_eq; simp at this
  | x :: l, y :: m, he, hp, h1, h2 => by
    have mx : x ∈ y :: m := hp.mem_iff.1 (List.mem_cons_self ..)
    have my : y ∈ x :: l := hp.mem_iff.2 (List.mem_cons_self ..)
    have exy : x = y := by
      rcases List.mem_cons.1 mx with e | mx
      · exact e
      · rcases List.mem_cons.1 my with e | my'
        · exact e.symm
        · have a1 := h2.1 x mx
          have a2 := h1.1 y my'
          have a3 := h.anti x y
          exact he x (List.mem_cons_self ..) y my (by omega)
    subst exy
    rw [inc_perm h (fun u hu v hv => he u (List.mem_cons_of_mem _ hu) v (List.mem_cons_of_mem _ hv)) (List.Perm.cons_inv hp) h1.2 h2.2]
/-- Each of a has one of its own in b. -/
def Win (a b : List β) : Prop := ∃ rest, (a ++ rest).Perm b
theorem win_perm {a a' b b' : List β} (ha : a.Perm a') (hb : b.Perm b') : Win a b ↔ Win a' b' :=
  ⟨fun ⟨r, h⟩ => ⟨r, ((ha.symm.append_right r).trans h).trans hb⟩, fun ⟨r, h⟩ => ⟨r, ((ha.append_right r).trans h).trans hb.symm⟩⟩
theorem win_nil (b : List β) : Win [] b := ⟨b, .refl _⟩
/-- One that is there, the first that is not below. -/
theorem win_yes {x : β} {a b1 b2 : List β} (h : Win a b2) : Win (x :: a) (b1 ++ x :: b2) := by
  obtain ⟨r, hr⟩ := h
  refine ⟨b1 ++ r, ?_⟩
  have p1 : (a ++ (b1 ++ r)).Perm (b1 ++ b2) := by
    have : (a ++ (b1 ++ r)).Perm (b1 ++ (a ++ r)) := by
      rw [← List.append_assoc, ← List.append_assoc]
      exact (List.perm_append_comm).append_right r
    exact this.trans (hr.append_left b1)
  exact (p1.cons x).trans (List.perm_middle).symm
theorem win_back (h : Cm c) {x : β} {a b1 b2 : List β} (ha : ∀ y ∈ a, c x y ≤ 0) (hb1 : ∀ y ∈ b1, c y x < 0) (hb2 : ∀ y ∈ b2, c x y ≤ 0) (hw : Win (x :: a) (b1 ++ x :: b2)) : Win a b2 := by
  obtain ⟨r, hr⟩ := hw
  have p1 : (a ++ r).Perm (b1 ++ b2) := List.Perm.cons_inv (hr.trans List.perm_middle)
  have p2 := p1.filter (fun y => decide (c x y ≤ 0))
  have f1 : a.filter (fun y => decide (c x y ≤ 0)) = a := List.filter_eq_self.2 (fun y hy => by simpa using ha y hy)
  have f2 : b2.filter (fun y => decide (c x y ≤ 0)) = b2 := List.filter_eq_self.2 (fun y hy => by simpa using hb2 y hy)
  have f3 : b1.filter (fun y => decide (c x y ≤ 0)) = [] := List.filter_eq_nil_iff.2 (fun y hy => by have := hb1 y hy; have := h.anti y x; simp; omega)
  rw [List.filter_append, List.filter_append, f1, f2, f3, List.nil_append] at p2
  exact ⟨_, p2⟩
theorem win_mem {x : β} {a b : List β} (hw : Win (x :: a) b) : x ∈ b := by
  obtain ⟨r, hr⟩ := hw
  exact hr.mem_iff.1 (List.mem_cons_self ..)
theorem win_both {a b : List β} (h1 : Win a b) (h2 : Win b a) : a.Perm b := by
  obtain ⟨r, hr⟩ := h1
  obtain ⟨s, hs⟩ := h2
  have l1 := hr.length_eq
  have l2 := hs.length_eq
  rw [List.length_append] at l1 l2
  have : r = [] := List.eq_nil_of_length_eq_zero (by omega)
  rw [this, List.append_nil] at hr
  exact hr
theorem win_of_perm {a b : List β} (h : a.Perm b) : Win a b := ⟨[], by rw [List.append_nil]; exact h⟩
theorem win_len {a b : List β} (h : Win a b) : a.length ≤ b.length := by
  obtain ⟨r, hr⟩ := h
  have := hr.length_eq
  rw [List.length_append] at this
  omega
end
end Go.Proofs.Ytkkmbpcmkhikkaa.M

