/- Names, columns and tables, by definition. -/
import Derived.Test.YtlgchdpajfmpdaaMath
namespace Go.Proofs.Ytlgchdpajfmpdaa.M

/-- Does each have it, told with its place? -/
def allFrom {α : Type} (p : Nat → α → Bool) : Nat → List α → Bool
  | _, [] => true
  | i, c :: r => p i c && allFrom p (i + 1) r
theorem allFrom_step {α : Type} (p : Nat → α → Bool) {l : List α} {i : Nat} {c : α} (h : l[i]? = some c) : allFrom p i (l.drop i) = (p i c && allFrom p (i + 1) (l.drop (i + 1))) := by
  obtain ⟨h1, e1⟩ := List.getElem?_eq_some_iff.1 h
  rw [List.drop_eq_getElem_cons h1, e1]; rfl
theorem allFrom_end {α : Type} (p : Nat → α → Bool) {l : List α} {i : Nat} (h : l.length ≤ i) : allFrom p i (l.drop i) = true := by
  rw [List.drop_of_length_le h]; rfl
/-- May a name have this byte in this place? -/
def stands (i : Nat) (c : UInt8) : Bool := (decide (97 ≤ c.toNat) && decide (c.toNat ≤ 122)) || decide (c.toNat = 95) || (decide (48 ≤ c.toNat) && decide (c.toNat ≤ 57) && decide (0 < i))
/-- Is it a name? -/
def name (s : List UInt8) : Bool := decide (s.length ≠ 0) && decide (s.length ≤ 20) && allFrom stands 0 s
/-- A column: its name, its kind. -/
abbrev Col : Type := List UInt8 × Int
/-- Is a column, by itself, none? -/
def colBad (c : Col) : Bool := !name c.1 || decide (c.2 < 1) || decide (4 < c.2)
/-- The place of the first of which it is so. -/
def idx (p : Col → Bool) : List Col → Option Nat
  | [] => none
  | c :: r => if p c then some 0 else (idx p r).map (· + 1)
def place (o : Option Nat) : Int := match o with
  | none => -1
  | some i => (i : Int)
/-- What is wrong with a table. -/
def right (n : List UInt8) (cs : List Col) : Nat :=
  if name n = true ∧ cs.length ≠ 0 ∧ cs.length ≤ 8 ∧ cs.any colBad = false then (if (cs.map (·.1)).Nodup then 0 else 41) else 2
theorem right_le (n : List UInt8) (cs : List Col) : right n cs ≤ 100 := by unfold right; split <;> (try split) <;> omega
theorem right_ok {n : List UInt8} {cs : List Col} (h : right n cs = 0) : name n = true ∧ cs.length ≠ 0 ∧ cs.length ≤ 8 ∧ cs.any colBad = false ∧ (cs.map (·.1)).Nodup := by
  unfold right at h
  split at h
  · rename_i h1
    split at h
    · rename_i h2; exact ⟨h1.1, h1.2.1, h1.2.2.1, h1.2.2.2, h2⟩
    · cases h
  · cases h
theorem idx_none {p : Col → Bool} : ∀ {cs : List Col}, (∀ c ∈ cs, p c = false) → idx p cs = none
  | [], _ => rfl
  | c :: r, h => by
    rw [idx, if_neg (by rw [h c (List.mem_cons_self ..)]; simp), idx_none (fun d hd => h d (List.mem_cons_of_mem _ hd))]; rfl
theorem idx_some {p : Col → Bool} : ∀ {cs : List Col} {i : Nat} {c : Col}, cs[i]? = some c → p c = true → (∀ d ∈ cs.take i, p d = false) → idx p cs = some i
  | [], i, c, h, _, _ => by simp at h
  | x :: r, 0, c, h, hp, _ => by
    obtain rfl : x = c := by simpa using h
    rw [idx, if_pos hp]
  | x :: r, i + 1, c, h, hp, hb => by
    have hx := hb x (by simp)
    rw [idx, if_neg (by rw [hx]; simp), idx_some (i := i) (c := c) (by simpa using h) hp (fun d hd => hb d (by rw [List.take_succ_cons]; exact List.mem_cons_of_mem _ hd))]; rfl
theorem any_idx {p : Col → Bool} : ∀ cs : List Col, cs.any p = (idx p cs).isSome
  | [] => rfl
  | c :: r => by
    rw [List.any_cons, idx, any_idx r]
    cases p c
    · rw [if_neg (by simp)]; simp
    · rw [if_pos rfl]; simp
theorem take_false {p : Col → Bool} {cs : List Col} {i : Nat} {c : Col} (hc : cs[i]? = some c) (h : ∀ d ∈ cs.take i, p d = false) (hp : p c = false) : ∀ d ∈ cs.take (i + 1), p d = false := by
  intro d hd
  rw [List.take_add_one, hc] at hd
  rcases List.mem_append.1 hd with h1 | h1
  · exact h d h1
  · obtain rfl : d = c := by simpa using h1
    exact hp
/-- One more name, which is new. -/
theorem nodup_take {ns : List (List UInt8)} {i : Nat} {c : List UInt8} (hc : ns[i]? = some c) (h : (ns.take i).Nodup) (hn : c ∉ ns.take i) : (ns.take (i + 1)).Nodup := by
  rw [List.take_add_one, hc]
  refine List.nodup_append.2 ⟨h, by simp, ?_⟩
  intro a ha b hb
  obtain rfl : b = c := by simpa using hb
  intro e; subst e; exact hn ha
theorem not_nodup {ns : List (List UInt8)} {i : Nat} {c : List UInt8} (hc : ns[i]? = some c) (hn : c ∈ ns.take i) : ¬ ns.Nodup := by
  intro h
  have e := List.take_append_drop i ns
  rw [← e] at h
  obtain ⟨h1, e1⟩ := List.getElem?_eq_some_iff.1 hc
  refine (List.nodup_append.1 h).2.2 c hn c ?_ rfl
  rw [List.drop_eq_getElem_cons h1, e1]; exact List.mem_cons_self ..
/-- Where no name is twice, each column is found by its name. -/
theorem idx_name {cs : List Col} (h : (cs.map (·.1)).Nodup) {i : Nat} {c : Col} (hc : cs[i]? = some c) : idx (fun d => decide (d.1 = c.1)) cs = some i := by
  refine idx_some hc (by simp) ?_
  intro d hd
  rw [decide_eq_false_iff_not]
  intro e
  refine not_nodup (ns := cs.map (·.1)) (i := i) (c := c.1) (by rw [List.getElem?_map, hc]; rfl) ?_ h
  rw [← List.map_take]
  exact List.mem_map.2 ⟨d, hd, e⟩
end Go.Proofs.Ytlgchdpajfmpdaa.M
