/- Values: which may be, their one form, their order, their bytes, and how they are taken: by definition. -/
import Derived.Test.YtkkmbpcmkhikkaaState
import Derived.Test.YtkkmbpcmkhikkaaVFloat
namespace Go.Proofs.Ytkkmbpcmkhikkaa.M

structure V where
  k : Int
  n : Int
  b : Nat
  t : List UInt8
def V0 : V := ⟨0, 0, 0, []⟩
/-- A value that a program can have. -/
structure V.Ok (v : V) : Prop where
  k : -9223372036854775808 ≤ v.k ∧ v.k ≤ 9223372036854775807
  n : -9223372036854775808 ≤ v.n ∧ v.n ≤ 9223372036854775807
  b : v.b < 18446744073709551616
/-- May it be? -/
def right (v : V) : Bool :=
  if v.k = 1 then (v.n == 0 || v.n == 1) && (zero v.b && v.t == [])
  else if v.k = 2 then zero v.b && v.t == []
  else if v.k = 4 then decide (v.t.length ≤ 64) && (zero v.b && v.n == 0)
  else if v.k = 0 then zero v.b && (v.n == 0 && v.t == [])
  else if v.k = 3 then v.n == 0 && v.t == []
  else false
def plain (v : V) : V := if right v then ⟨v.k, v.n, canon v.b, v.t⟩ else V0

/-- What it says of a value that it may be. -/
structure Fit (v : V) : Prop where
  kind : v.k = 0 ∨ v.k = 1 ∨ v.k = 2 ∨ v.k = 3 ∨ v.k = 4
  int : v.k = 0 ∨ v.k = 3 ∨ v.k = 4 → v.n = 0
  bool : v.k = 1 → v.n = 0 ∨ v.n = 1
  float : v.k ≠ 3 → zero v.b = true
  text : v.k ≠ 4 → v.t = []
  len : v.k = 4 → v.t.length ≤ 64
theorem right_iff (v : V) : right v = true ↔ Fit v := by
  constructor
  · intro h
    unfold right at h
    split at h
    · rename_i k
      simp at h
      exact ⟨by omega, by omega, fun _ => h.1, fun _ => h.2.1, fun _ => h.2.2, by omega⟩
    · split at h
      · rename_i k
        simp at h
        exact ⟨by omega, by omega, by omega, fun _ => h.1, fun _ => h.2, by omega⟩
      · split at h
        · rename_i k
          simp at h
          exact ⟨by omega, fun _ => h.2.2, by omega, fun _ => h.2.1, fun e => absurd k e, fun _ => h.1⟩
        · split at h
          · rename_i k
            simp at h
            exact ⟨by omega, fun _ => h.2.1, by omega, fun _ => h.1, fun _ => h.2.2, by omega⟩
          · split at h
            · rename_i k
              simp at h
              exact ⟨by omega, fun _ => h.1, by omega, fun e => absurd k e, fun _ => h.2, by omega⟩
            · cases h
  · intro h
    unfold right
    rcases h.kind with k | k | k | k | k
    · rw [if_neg (by omega), if_neg (by omega), if_neg (by omega), if_pos k]
      simp [h.int (by omega), h.float (by omega), h.text (by omega)]
    · rw [if_pos k]
      have := h.bool k
      simp [h.float (by omega), h.text (by omega)]; omega
    · rw [if_neg (by omega), if_pos k]
      simp [h.float (by omega), h.text (by omega)]
    · rw [if_neg (by omega), if_neg (by omega), if_neg (by omega), if_neg (by omega), if_pos k]
      simp [h.int (by omega), h.text (by omega)]
    · rw [if_neg (by omega), if_neg (by omega), if_pos k]
      simp [h.int (by omega), h.float (by omega), h.len k]
theorem fit_V0 : Fit V0 := ⟨by simp [V0], by simp [V0], by simp [V0], fun _ => by decide, fun _ => rfl, by simp [V0]⟩
theorem canon_noughts {b : Nat} (h : zero b = true) : canon b = 0 := by
  unfold canon
  rw [nan_iff, if_neg, if_pos h]
  rw [zero_iff] at h
  have := of_decide_eq_true h
  simp; omega
theorem zero_canon {b : Nat} (h : zero b = true) : zero (canon b) = true := by rw [canon_noughts h]; decide
/-- A value in its one form. -/
structure IsPlain (v : V) : Prop where
  fit : Fit v
  ok : v.Ok
  same : canon v.b = v.b
theorem plain_is {v : V} (h : v.Ok) : IsPlain (plain v) := by
  unfold plain
  split
  · rename_i hr
    have f := (right_iff v).1 hr
    exact ⟨⟨f.kind, f.int, f.bool, fun e => zero_canon (f.float e), f.text, f.len⟩, ⟨h.k, h.n, canon_lt h.b⟩, canon_canon _⟩
  · exact ⟨fit_V0, ⟨by simp [V0], by simp [V0], by simp [V0]⟩, canon_zero⟩
theorem IsPlain.noughts {v : V} (h : IsPlain v) (hk : v.k ≠ 3) : v.b = 0 := by
  rw [← h.same]; exact canon_noughts (h.fit.float hk)
theorem plain_plain {v : V} (h : IsPlain v) : plain v = v := by
  unfold plain
  rw [if_pos ((right_iff v).2 h.fit), h.same]
theorem right_plain {v : V} (h : v.Ok) : right (plain v) = true := (right_iff _).2 (plain_is h).fit

/-! ### The order -/
theorem less_irr : ∀ x : List UInt8, Op.bytesLess x x = false
  | [] => rfl
  | a :: x => by simp [Op.bytesLess, less_irr x]
theorem less_tri : ∀ x y : List UInt8, Op.bytesLess x y = false → Op.bytesLess y x = false → x = y
  | [], [], _, _ => rfl
  | [], _ :: _, h, _ => by simp [Op.bytesLess] at h
  | _ :: _, [], _, h => by simp [Op.bytesLess] at h
  | a :: x, b :: y, h, k => by
    simp [Op.bytesLess] at h k
    obtain rfl : a = b := UInt8.le_antisymm k.1 h.1
    rw [less_tri x y (h.2 rfl) (k.2 rfl)]
theorem less_asym : ∀ x y : List UInt8, Op.bytesLess x y = true → Op.bytesLess y x = false
  | [], [], h => by simp [Op.bytesLess] at h
  | [], _ :: _, _ => rfl
  | _ :: _, [], h => by simp [Op.bytesLess] at h
  | a :: x, b :: y, h => by
    simp [Op.bytesLess] at h ⊢
    rcases h with h | ⟨rfl, h⟩
    · exact ⟨UInt8.le_of_lt h, fun e => by subst e; exact absurd h (UInt8.lt_irrefl _)⟩
    · exact ⟨UInt8.le_refl _, fun _ => less_asym x y h⟩
theorem less_trans : ∀ x y z : List UInt8, Op.bytesLess x y = true → Op.bytesLess y z = true → Op.bytesLess x z = true
  | _, _, [], _, k => by simp [Op.bytesLess] at k
  | [], _, _ :: _, _, _ => rfl
  | _ :: _, [], _, h, _ => by simp [Op.bytesLess] at h
  | a :: x, b :: y, c :: z, h, k => by
    simp [Op.bytesLess] at h k ⊢
    rcases h with h | ⟨rfl, h⟩
    · rcases k with k | ⟨rfl, k⟩
      · exact .inl (UInt8.lt_trans h k)
      · exact .inl h
    · rcases k with k | ⟨rfl, k⟩
      · exact .inl k
      · exact .inr ⟨rfl, less_trans x y z h k⟩
def tcmp (x y : List UInt8) : Int := if Op.bytesLess x y then -1 else if x == y then 0 else 1
/-- An order, told as -1, 0 and 1. -/
structure Tot (a b c x y z : Int) : Prop where
  lo : -1 ≤ x
  hi : x ≤ 1
  le : x ≤ 0 → y ≤ 0 → z ≤ 0
  ll : x ≤ 0 → y < 0 → z < 0
  rr : x < 0 → y ≤ 0 → z < 0
  turn : a = -x
  turn2 : b = -y
  turn3 : c = -z
theorem tot_int (x y z : Int) : Tot (cmp3 y x) (cmp3 z y) (cmp3 z x) (cmp3 x y) (cmp3 y z) (cmp3 x z) := by
  unfold cmp3
  constructor <;> (split <;> (try split) <;> (try split) <;> (try split) <;> (try split) <;> (try split) <;> omega)
theorem tcmp_anti (x y : List UInt8) : tcmp y x = -tcmp x y := by
  unfold tcmp
  by_cases h : Op.bytesLess x y = true
  · rw [if_pos h, if_neg (by rw [less_asym x y h]; simp)]
    by_cases e : y = x
    · subst e; rw [less_irr] at h; cases h
    · rw [if_neg (by simpa using e)]; rfl
  · rw [if_neg h]
    by_cases k : Op.bytesLess y x = true
    · rw [if_pos k]
      by_cases e : x = y
      · subst e; rw [less_irr] at k; cases k
      · rw [if_neg (by simpa using e)]
    · have := less_tri x y (by simpa using h) (by simpa using k)
      subst this
      simp [less_irr]
theorem tcmp_range (x y : List UInt8) : tcmp x y = -1 ∨ tcmp x y = 0 ∨ tcmp x y = 1 := by
  unfold tcmp; split
  · simp
  · split <;> simp
theorem tcmp_lt {x y : List UInt8} : tcmp x y < 0 ↔ Op.bytesLess x y = true := by
  unfold tcmp
  by_cases h : Op.bytesLess x y = true
  · simp [h]
  · rw [if_neg h]; simp only [h]; split <;> simp
theorem tcmp_eq {x y : List UInt8} : tcmp x y = 0 ↔ x = y := by
  unfold tcmp
  by_cases h : Op.bytesLess x y = true
  · rw [if_pos h]
    constructor
    · intro e; omega
    · intro e; subst e; rw [less_irr] at h; cases h
  · rw [if_neg h]
    by_cases e : x = y
    · simp [e]
    · simp [e]
theorem tot_text (x y z : List UInt8) : Tot (tcmp y x) (tcmp z y) (tcmp z x) (tcmp x y) (tcmp y z) (tcmp x z) := by
  have r1 := tcmp_range x y
  have key : ∀ {x y z : List UInt8}, tcmp x y ≤ 0 → tcmp y z ≤ 0 → tcmp x z ≤ 0 ∧ (tcmp x y < 0 ∨ tcmp y z < 0 → tcmp x z < 0) := by
    intro x y z h k
    rcases tcmp_range x y with h1 | h1 | h1
    · have a1 := tcmp_lt.1 (show tcmp x y < 0 by omega)
      rcases tcmp_range y z with k1 | k1 | k1
      · have a2 := tcmp_lt.1 (show tcmp y z < 0 by omega)
        have a3 := tcmp_lt.2 (less_trans x y z a1 a2)
        exact ⟨by omega, fun _ => a3⟩
      · obtain rfl := tcmp_eq.1 k1
        exact ⟨h, fun _ => by omega⟩
      · omega
    · obtain rfl := tcmp_eq.1 h1
      exact ⟨k, fun c => by omega⟩
    · omega
  exact ⟨by omega, by omega, fun h k => (key h k).1, fun h k => (key h (by omega)).2 (.inr k), fun h k => (key (by omega) k).2 (.inl h), tcmp_anti x y, tcmp_anti y z, tcmp_anti x z⟩
/-- How two values in their one form stand to one another. -/
def pcmp (u v : V) : Int :=
  if u.k ≠ v.k then cmp3 u.k v.k else if u.k = 3 then fcmp u.b v.b else if u.k = 4 then tcmp u.t v.t else cmp3 u.n v.n
def cmp (u v : V) : Int := pcmp (plain u) (plain v)
theorem cmp3_ne {x y : Int} (h : x ≠ y) : cmp3 x y = -1 ∧ x < y ∨ cmp3 x y = 1 ∧ y < x := by
  unfold cmp3; split
  · exact .inl ⟨rfl, by assumption⟩
  · split
    · exact .inr ⟨rfl, by assumption⟩
    · omega
theorem pcmp_anti (u v : V) : pcmp v u = -pcmp u v := by
  by_cases h : u.k = v.k
  · have e1 : pcmp v u = if u.k = 3 then fcmp v.b u.b else if u.k = 4 then tcmp v.t u.t else cmp3 v.n u.n := by rw [pcmp, if_neg (by omega), ← h]
    have e2 : pcmp u v = if u.k = 3 then fcmp u.b v.b else if u.k = 4 then tcmp u.t v.t else cmp3 u.n v.n := by rw [pcmp, if_neg (by omega)]
    rw [e1, e2]
    by_cases h3 : u.k = 3
    · rw [if_pos h3, if_pos h3]
      exact (tot_int (key u.b) (key v.b) 0).turn
    · rw [if_neg h3, if_neg h3]
      by_cases h4 : u.k = 4
      · rw [if_pos h4, if_pos h4]
        exact tcmp_anti _ _
      · rw [if_neg h4, if_neg h4]
        exact (tot_int u.n v.n 0).turn
  · rw [pcmp, if_pos (by omega), pcmp, if_pos (by omega)]
    exact (tot_int u.k v.k 0).turn
theorem tot_plain (u v w : V) : Tot (pcmp v u) (pcmp w v) (pcmp w u) (pcmp u v) (pcmp v w) (pcmp u w) := by
  by_cases h : u.k = v.k
  · by_cases k : v.k = w.k
    · have e1 : pcmp u v = if u.k = 3 then fcmp u.b v.b else if u.k = 4 then tcmp u.t v.t else cmp3 u.n v.n := by rw [pcmp, if_neg (by omega)]
      have e2 : pcmp v w = if u.k = 3 then fcmp v.b w.b else if u.k = 4 then tcmp v.t w.t else cmp3 v.n w.n := by rw [pcmp, if_neg (by omega), ← h]
      have e3 : pcmp u w = if u.k = 3 then fcmp u.b w.b else if u.k = 4 then tcmp u.t w.t else cmp3 u.n w.n := by rw [pcmp, if_neg (by omega)]
      rw [pcmp_anti u v, pcmp_anti v w, pcmp_anti u w, e1, e2, e3]
      split
      · have t := tot_int (key u.b) (key v.b) (key w.b)
        exact ⟨t.lo, t.hi, t.le, t.ll, t.rr, rfl, rfl, rfl⟩
      · split
        · have t := tot_text u.t v.t w.t
          exact ⟨t.lo, t.hi, t.le, t.ll, t.rr, rfl, rfl, rfl⟩
        · have t := tot_int u.n v.n w.n
          exact ⟨t.lo, t.hi, t.le, t.ll, t.rr, rfl, rfl, rfl⟩
    · have e2 : pcmp v w = cmp3 v.k w.k := by rw [pcmp, if_pos (by omega)]
      have e3 : pcmp u w = cmp3 v.k w.k := by rw [pcmp, if_pos (by omega), h]
      have r : -1 ≤ pcmp u v ∧ pcmp u v ≤ 1 := by
        unfold pcmp
        split
        · exact ⟨(tot_int u.k v.k 0).lo, (tot_int u.k v.k 0).hi⟩
        · split
          · exact ⟨(tot_int (key u.b) (key v.b) 0).lo, (tot_int (key u.b) (key v.b) 0).hi⟩
          · split
            · exact ⟨(tot_text u.t v.t []).lo, (tot_text u.t v.t []).hi⟩
            · exact ⟨(tot_int u.n v.n 0).lo, (tot_int u.n v.n 0).hi⟩
      have c := cmp3_ne k
      exact ⟨r.1, r.2, by omega, by omega, by omega, pcmp_anti _ _, pcmp_anti _ _, pcmp_anti _ _⟩
  · have e1 : pcmp u v = cmp3 u.k v.k := by rw [pcmp, if_pos (by omega)]
    have c := cmp3_ne h
    by_cases k : v.k = w.k
    · have e3 : pcmp u w = cmp3 u.k v.k := by rw [pcmp, if_pos (by omega), k]
      exact ⟨by omega, by omega, by omega, by omega, by omega, pcmp_anti _ _, pcmp_anti _ _, pcmp_anti _ _⟩
    · have e2 : pcmp v w = cmp3 v.k w.k := by rw [pcmp, if_pos (by omega)]
      have d := cmp3_ne k
      have e3 : pcmp u w < 0 ∨ ¬ (u.k < v.k ∧ v.k < w.k) := by
        by_cases q : u.k < v.k ∧ v.k < w.k
        · rw [pcmp, if_pos (by omega), cmp3, if_pos (by omega)]; simp
        · exact .inr q
      exact ⟨by omega, by omega, by omega, by omega, by omega, pcmp_anti _ _, pcmp_anti _ _, pcmp_anti _ _⟩
theorem tot_cmp (u v w : V) : Tot (cmp v u) (cmp w v) (cmp w u) (cmp u v) (cmp v w) (cmp u w) := tot_plain _ _ _
theorem cmp_self (u : V) : cmp u u = 0 := by
  have := (tot_cmp u u u).turn
  omega
theorem cmp3_eq {x y : Int} (h : cmp3 x y = 0) : x = y := by unfold cmp3 at h; split at h <;> (try split at h) <;> omega
theorem pcmp_eq {u v : V} (hu : IsPlain u) (hv : IsPlain v) (h : pcmp u v = 0) : u = v := by
  unfold pcmp at h
  by_cases e : u.k = v.k
  · rw [if_neg (by omega)] at h
    obtain ⟨k, n, b, t⟩ := u
    obtain ⟨k', n', b', t'⟩ := v
    obtain rfl : k = k' := e
    simp only at h
    by_cases h3 : k = 3
    · rw [if_pos h3] at h
      have hb : b = b' := by
        have q := canon_key hu.ok.b hv.ok.b (cmp3_eq h)
        rw [hu.same, hv.same] at q; exact q
      obtain rfl : n = 0 := hu.fit.int (.inr (.inl h3))
      obtain rfl : n' = 0 := hv.fit.int (.inr (.inl h3))
      obtain rfl : t = [] := hu.fit.text (by show k ≠ 4; omega)
      obtain rfl : t' = [] := hv.fit.text (by show k ≠ 4; omega)
      rw [hb]
    · rw [if_neg h3] at h
      obtain rfl : b = 0 := hu.noughts h3
      obtain rfl : b' = 0 := hv.noughts h3
      by_cases h4 : k = 4
      · rw [if_pos h4] at h
        obtain rfl : n = 0 := hu.fit.int (.inr (.inr h4))
        obtain rfl : n' = 0 := hv.fit.int (.inr (.inr h4))
        rw [tcmp_eq.1 h]
      · rw [if_neg h4] at h
        obtain rfl : t = [] := hu.fit.text h4
        obtain rfl : t' = [] := hv.fit.text h4
        rw [cmp3_eq h]
  · rw [if_pos e] at h
    exact absurd (cmp3_eq h) e
theorem cmp_eq {u v : V} (hu : u.Ok) (hv : v.Ok) : cmp u v = 0 ↔ plain u = plain v := by
  constructor
  · exact pcmp_eq (plain_is hu) (plain_is hv)
  · intro h
    have := cmp_self (plain u)
    unfold cmp at this ⊢
    rw [plain_plain (plain_is hu)] at this
    rw [← h]; exact this
end Go.Proofs.Ytkkmbpcmkhikkaa.M
