/- Bags of rows as the program has them. -/
import Derived.Test.YtkkmbpcmkhikkaaBags
namespace Go.Proofs.Ytkkmbpcmkhikkaa
open M

/-- A row in its one form. -/
def prr (x : Hd) : List M.V := M.pr x.r
/-- Rows that a program can have. -/
def Oks (l : List Hd) : Prop := ∀ x ∈ l, ∀ v ∈ x.r, v.Ok
/-- A bag: its rows in their one form. -/
def bag (l : List Hd) : List (List M.V) := l.map prr
theorem lcmp_zero : ∀ {l m : List Hd}, Oks l → Oks m → (lcmp (fun x y : Hd => rcmp x.r y.r) l m = 0 ↔ bag l = bag m)
  | [], [], _, _ => by simp [lcmp, bag]
  | [], y :: m, _, _ => by simp [lcmp, bag]
  | x :: l, [], _, _ => by simp [lcmp, bag]
  | x :: l, y :: m, hl, hm => by
    have e := rcmp_eq (hl x (List.mem_cons_self ..)) (hm y (List.mem_cons_self ..))
    have ih := lcmp_zero (l := l) (m := m) (fun x h => hl x (List.mem_cons_of_mem _ h)) (fun x h => hm x (List.mem_cons_of_mem _ h))
    simp only [lcmp, bag, List.map_cons, List.cons.injEq] at ih ⊢
    by_cases e0 : rcmp x.r y.r = 0
    · rw [if_pos e0]
      exact ⟨fun h => ⟨e.1 e0, ih.1 h⟩, fun h => ih.2 h.2⟩
    · rw [if_neg e0]
      exact ⟨fun h => absurd h e0, fun h => absurd (e.2 h.1) e0⟩
theorem inc_of_pairwise {β : Type} {c : β → β → Int} : ∀ {l : List β}, l.Pairwise (fun x y => c x y ≤ 0) → Inc c l
  | [], _ => trivial
  | _ :: _, h => ⟨(List.pairwise_cons.1 h).1, inc_of_pairwise (List.pairwise_cons.1 h).2⟩
theorem inc_of_srt {l : List Hd} (ho : Oks l) (h : Srt (ltc rcmp) 0 l.length l) : Inc rcmp (bag l) := by
  apply inc_of_pairwise
  rw [List.pairwise_iff_getElem]
  intro i j hi hj hij
  have hi' : i < l.length := by simpa [bag] using hi
  have hj' : j < l.length := by simpa [bag] using hj
  have k := h i j (Nat.zero_le _) hij hj'
  rw [getElem!_pos l i hi', getElem!_pos l j hj'] at k
  unfold ltc at k
  have k := of_decide_eq_false k
  simp only [bag, List.getElem_map, prr]
  rw [rcmp_pr (ho _ (List.getElem_mem _)) (ho _ (List.getElem_mem _))]
  have := cm_rcmp.anti (l[j]).r (l[i]).r
  omega
theorem bag_inj {l : List Hd} (ho : Oks l) : ∀ x ∈ bag l, ∀ y ∈ bag l, rcmp x y = 0 → x = y := by
  intro x hx y hy h
  obtain ⟨u, hu, rfl⟩ := List.mem_map.1 hx
  obtain ⟨v, hv, rfl⟩ := List.mem_map.1 hy
  unfold prr at h ⊢
  rw [rcmp_pr (ho u hu) (ho v hv)] at h
  exact (rcmp_eq (ho u hu) (ho v hv)).1 h
theorem Oks.perm {l m : List Hd} (h : Oks l) (hp : m.Perm l) : Oks m := fun x hx => h x (hp.mem_iff.1 hx)
/-- Two bags are the same just if they are, sorted. -/
theorem bag_same {l m l' m' : List Hd} (h1 : Mrg (ltc rcmp) 0 l.length l m) (h2 : Mrg (ltc rcmp) 0 l'.length l' m') (o1 : Oks l) (o2 : Oks l') : lcmp (fun x y : Hd => rcmp x.r y.r) m m' = 0 ↔ (bag l).Perm (bag l') := by
  have p1 : (bag m).Perm (bag l) := h1.mv.perm.map prr
  have p2 : (bag m').Perm (bag l') := h2.mv.perm.map prr
  have om := o1.perm h1.mv.perm
  have om' := o2.perm h2.mv.perm
  rw [lcmp_zero om om']
  constructor
  · intro e
    exact (p1.symm.trans (by rw [e])).trans p2
  · intro hp
    have s1 := inc_of_srt om (by rw [h1.mv.len]; exact h1.srt)
    have s2 := inc_of_srt om' (by rw [h2.mv.len]; exact h2.srt)
    exact inc_perm cm_rcmp (bag_inj om) ((p1.trans hp).trans p2.symm) s1 s2
/-- Where a search among rows ends. -/
structure Found (l : List Hd) (t : Hd) (i : Nat) (f : Bool) : Prop where
  le : i ≤ l.length
  lo : ∀ k, k < i → rcmp l[k]!.r t.r < 0
  hi : ∀ k, i ≤ k → k < l.length → 0 ≤ rcmp l[k]!.r t.r
  is : f = true ↔ i < l.length ∧ rcmp l[i]!.r t.r = 0
theorem bag_drop (l : List Hd) (n : Nat) : bag (l.drop n) = (bag l).drop n := by simp [bag, List.map_drop]
theorem Inc.drop {β : Type} {c : β → β → Int} : ∀ {l : List β} (n : Nat), Inc c l → Inc c (l.drop n)
  | [], n, _ => by simp [Inc]
  | _ :: _, 0, h => h
  | _ :: l, n + 1, h => Inc.drop (l := l) n h.2
theorem Found.split {l : List Hd} {t : Hd} {i : Nat} (h : Found l t i true) (ol : Oks l) (ot : ∀ v ∈ t.r, v.Ok) : bag l = bag (l.take i) ++ prr t :: bag (l.drop (i + 1)) := by
  obtain ⟨h1, h2⟩ := h.is.1 rfl
  rw [getElem!_pos l i h1] at h2
  have e := (rcmp_eq (ol _ (List.getElem_mem h1)) ot).1 h2
  have e2 : l = l.take i ++ l[i] :: l.drop (i + 1) := by rw [← List.drop_eq_getElem_cons h1, List.take_append_drop]
  conv => lhs; rw [e2]
  unfold bag prr
  rw [List.map_append, List.map_cons, e]
/-- One more that is looked for. -/
theorem Found.step {a l : List Hd} {t : Hd} {i : Nat} (h : Found l t i true) (ol : Oks l) (oa : Oks (t :: a)) (sl : Inc rcmp (bag l)) (sa : Inc rcmp (bag (t :: a))) : Win (bag (t :: a)) (bag l) ↔ Win (bag a) (bag (l.drop (i + 1))) := by
  have ot := oa t (List.mem_cons_self ..)
  have e := h.split ol ot
  have hlo : ∀ y ∈ bag (l.take i), rcmp y (prr t) < 0 := by
    intro y hy
    obtain ⟨x, hx, rfl⟩ := List.mem_map.1 hy
    obtain ⟨k, hk, ek⟩ := List.getElem_of_mem hx
    have hk' : k < i ∧ k < l.length := by simp only [List.length_take] at hk; omega
    have := h.lo k hk'.1
    rw [getElem!_pos l k hk'.2] at this
    rw [List.getElem_take] at ek
    unfold prr
    rw [rcmp_pr (by rw [← ek]; exact ol _ (List.getElem_mem _)) ot, ← ek]
    exact this
  constructor
  · intro hw
    rw [e] at hw
    have s2 : Inc rcmp (prr t :: bag (l.drop (i + 1))) := by
      have := Inc.drop i sl
      rw [e, List.drop_append_of_le_length (by have := h.le; simp [bag]; omega)] at this
      rwa [List.drop_of_length_le (by simp [bag]; omega), List.nil_append] at this
    exact win_back cm_rcmp sa.1 hlo s2.1 hw
  · intro hw
    rw [e]
    exact win_yes hw
theorem Found.none {a l : List Hd} {t : Hd} {i : Nat} (h : Found l t i false) (ol : Oks l) (oa : Oks (t :: a)) (sl : Srt (ltc rcmp) 0 l.length l) : ¬ Win (bag (t :: a)) (bag l) := by
  intro hw
  have ot := oa t (List.mem_cons_self ..)
  have hm := win_mem (show Win (prr t :: bag a) (bag l) from hw)
  obtain ⟨x, hx, ex⟩ := List.mem_map.1 hm
  obtain ⟨k, hk, ek⟩ := List.getElem_of_mem hx
  have e0 : rcmp l[k]!.r t.r = 0 := by
    rw [getElem!_pos l k hk, ek]
    exact (rcmp_eq (ol x hx) ot).2 ex
  by_cases hki : k < i
  · have := h.lo k hki; omega
  · have hi : i < l.length := by omega
    have g1 := h.hi i (Nat.le_refl _) hi
    have g2 : rcmp l[i]!.r l[k]!.r ≤ 0 := by
      by_cases e : i = k
      · subst e; have := cm_rcmp.self l[i]!.r; omega
      · have := of_decide_eq_false (sl i k (Nat.zero_le _) (by omega) hk)
        have := cm_rcmp.anti l[k]!.r l[i]!.r
        omega
    have g3 := cm_rcmp.tr l[i]!.r l[k]!.r t.r g2 (by omega)
    have : (false : Bool) = true := h.is.2 ⟨hi, by omega⟩
    cases this
theorem Srt.drop {l : List Hd} {lt : Hd → Hd → Bool} (h : Srt lt 0 l.length l) (n : Nat) : Srt lt 0 (l.drop n).length (l.drop n) := by
  intro i j _ hij hj
  rw [List.length_drop] at hj
  have e : ∀ k, k < l.length - n → (l.drop n)[k]! = l[n + k]! := fun k hk => by
    rw [getElem!_pos (l.drop n) k (by rw [List.length_drop]; omega), getElem!_pos l (n + k) (by omega), List.getElem_drop]
  rw [e i (by omega), e j hj]
  exact h _ _ (Nat.zero_le _) (by omega) (by omega)
end Go.Proofs.Ytkkmbpcmkhikkaa
