/- What bytes are as a page, as the reference finds it. -/
import Derived.Test.YtidkmamjhpckgaaDoorPMath2
namespace Go.Proofs.YtidkmamjhpckgaaDoor.M

/-- The parts of 256 bytes. -/
def pNo (bs : List UInt8) : Nat := unfix (bs.take 4)
def pKd (bs : List UInt8) : UInt8 := bs.getD 4 0
def pN (bs : List UInt8) : Nat := (bs.getD 5 0).toNat
def pT (bs : List UInt8) : Nat := unfix ((bs.drop 6).take 2)
def pEs (bs : List UInt8) : List UInt8 := ((bs.drop 8).take 244).take (2 * pN bs)
def pAll (bs : List UInt8) : List UInt8 := ((bs.drop 8).take 244).drop (2 * pN bs)
/-- The first k cells. -/
def pCut (bs : List UInt8) (k : Nat) : Option (List (List UInt8) × Nat) := cutK (pEs bs) (pAll bs) (pT bs) k
theorem unfix4 (a b c d : UInt8) : unfix [a, b, c, d] = ((a.toNat * 256 + b.toNat) * 256 + c.toNat) * 256 + d.toNat := by simp [unfix]
theorem no_high {bs : List UInt8} (hl : bs.length = 256) : 2147483647 < pNo bs ↔ 127 < (bs.getD 0 0).toNat := by
  match bs, hl with
  | a :: b :: c :: d :: l, _ =>
    show 2147483647 < unfix [a, b, c, d] ↔ 127 < a.toNat
    rw [unfix4]
    have h1 := a.toNat_lt
    have h2 := b.toNat_lt
    have h3 := c.toNat_lt
    have h4 := d.toNat_lt
    omega
theorem read_parts {bs : List UInt8} (hl : bs.length = 256) : readP bs = if 2147483647 < pNo bs ∨ pKd bs = 0 ∨ 244 < 2 * pN bs + pT bs then none else
    match pCut bs (pN bs) with
    | none => none
    | some x => if x.2 = pT bs ∧ some0 ((pAll bs).drop (pT bs)) = false then some ⟨pNo bs, pKd bs, x.1⟩ else none := by
  have h1 : ¬ bs.length ≠ 256 := by omega
  rw [readP, if_neg h1]
  show (match cutC ((bs.drop 8).take 244) (pN bs) (pT bs) with
    | none => none
    | some cs => if 2147483647 < pNo bs ∨ pKd bs = 0 then none else some (⟨pNo bs, pKd bs, cs⟩ : Pg)) = _
  unfold cutC
  by_cases h2 : 244 < 2 * pN bs + pT bs
  · rw [if_pos h2, if_pos (.inr (.inr h2))]
  · rw [if_neg h2]
    show (match (match pCut bs (pN bs) with
      | none => none
      | some x => if x.2 = pT bs ∧ some0 ((pAll bs).drop (pT bs)) = false then some x.1 else none) with
      | none => none
      | some cs => if 2147483647 < pNo bs ∨ pKd bs = 0 then none else some (⟨pNo bs, pKd bs, cs⟩ : Pg)) = _
    cases pCut bs (pN bs) with
    | none => simp
    | some x =>
      simp only
      by_cases h3 : x.2 = pT bs ∧ some0 ((pAll bs).drop (pT bs)) = false
      · rw [if_pos h3, if_pos h3]
        simp only
        by_cases h4 : 2147483647 < pNo bs ∨ pKd bs = 0
        · rw [if_pos h4, if_pos (by rcases h4 with c | c; exact .inl c; exact .inr (.inl c))]
        · rw [if_neg h4, if_neg (fun c => by rcases c with c | c | c; exact h4 (.inl c); exact h4 (.inr c); exact h2 c)]
      · rw [if_neg h3, if_neg h3]
        simp
/-- Where the reference's reader stands. -/
theorem es_take {bs : List UInt8} {k : Nat} (hk : k < pN bs) (h : 2 * pN bs ≤ 244) : ((pEs bs).drop (2 * k)).take 2 = (bs.drop (8 + 2 * k)).take 2 := by
  unfold pEs
  rw [List.take_take, Nat.min_eq_left h, List.drop_take, List.drop_drop, List.take_take, Nat.min_eq_left (by omega)]
theorem all_take {bs : List UInt8} (h : 2 * pN bs + pT bs ≤ 244) : (pAll bs).take (pT bs) = (bs.drop (8 + 2 * pN bs)).take (pT bs) := by
  unfold pAll
  rw [List.drop_take, List.drop_drop, List.take_take, Nat.min_eq_left (by omega)]
theorem cut_cuts {bs : List UInt8} (hl : bs.length = 256) (h : 2 * pN bs + pT bs ≤ 244) {k : Nat} (hk : k ≤ pN bs) {cs : List (List UInt8)} {b : Nat} (hc : pCut bs k = some (cs, b)) : Cuts (pEs bs) (pAll bs) (pT bs) k cs b :=
  cutK_is (by unfold pAll; rw [List.length_drop, List.length_take, List.length_drop]; omega) k cs b (by unfold pEs; rw [List.length_take, List.length_take, List.length_drop]; omega) hc
/-- A cell as the reference reads it. -/
theorem cell_read {L : List UInt8} {cs : List (List UInt8)} (h : cs.flatten = L.take cs.flatten.length) {i : Nat} {c : List UInt8} (hc : cs[i]? = some c) : (L.drop (cs.take i).flatten.length).take c.length = c := by
  have e2 : cs = cs.take i ++ ([c] ++ cs.drop (i + 1)) := by
    have e1 : cs.take (i + 1) = cs.take i ++ [c] := by rw [List.take_add_one, hc]; rfl
    rw [← List.append_assoc, ← e1, List.take_append_drop]
  have e3 : cs.flatten = (cs.take i).flatten ++ (c ++ (cs.drop (i + 1)).flatten) := by
    conv => lhs; rw [e2]
    simp
  have e4 : (cs.flatten.drop (cs.take i).flatten.length).take c.length = c := by
    rw [e3, List.drop_left' rfl, List.take_left' rfl]
  rw [h, List.drop_take, List.take_take] at e4
  have hle : c.length ≤ cs.flatten.length - (cs.take i).flatten.length := by
    rw [e3, List.length_append, List.length_append]; omega
  rwa [Nat.min_eq_left hle] at e4
/-- What is found in the end. -/
theorem read_last {bs : List UInt8} (hl : bs.length = 256) (h1 : ¬ 2147483647 < pNo bs) (h2 : pKd bs ≠ 0) (h3 : 2 * pN bs + pT bs ≤ 244) {cs : List (List UInt8)} (hc : pCut bs (pN bs) = some (cs, pT bs)) :
    (⟨pNo bs, pKd bs, cs⟩ : Pg).Ok ∧ readP bs = if pfirst ⟨pNo bs, pKd bs, cs⟩ = bs.take 252 then some ⟨pNo bs, pKd bs, cs⟩ else none := by
  have q := cut_cuts hl h3 (Nat.le_refl _) hc
  have hok : (⟨pNo bs, pKd bs, cs⟩ : Pg).Ok := ⟨by show pNo bs < _; omega, h2, by show taken cs ≤ 244; rw [taken, q.n, q.at_]; exact h3⟩
  refine ⟨hok, ?_⟩
  by_cases he : pfirst ⟨pNo bs, pKd bs, cs⟩ = bs.take 252
  · rw [if_pos he]
    exact read_of hok hl he.symm
  · rw [if_neg he, read_parts hl, if_neg (fun c => by rcases c with c | c | c; exact h1 c; exact h2 c; omega), hc]
    simp only
    by_cases h4 : some0 ((pAll bs).drop (pT bs)) = false
    · exfalso
      have hr : readP bs = some ⟨pNo bs, pKd bs, cs⟩ := by
        rw [read_parts hl, if_neg (fun c => by rcases c with c | c | c; exact h1 c; exact h2 c; omega), hc]
        simp only
        rw [if_pos ⟨trivial, h4⟩]
      exact he (read_ok hr).2.2.symm
    · rw [if_neg (fun c => h4 c.2)]
theorem read_not {bs : List UInt8} (hl : bs.length = 256) (h : 2147483647 < pNo bs ∨ pKd bs = 0 ∨ 244 < 2 * pN bs + pT bs) : readP bs = none := by
  rw [read_parts hl, if_pos h]
theorem read_none {bs : List UInt8} (hl : bs.length = 256) (h : pCut bs (pN bs) = none) : readP bs = none := by
  rw [read_parts hl, h]; simp
theorem read_rest {bs : List UInt8} (hl : bs.length = 256) {cs : List (List UInt8)} {b : Nat} (h : pCut bs (pN bs) = some (cs, b)) (hb : b ≠ pT bs) : readP bs = none := by
  rw [read_parts hl, h]
  split
  · rfl
  · exact if_neg (fun c => hb c.1)
end Go.Proofs.YtidkmamjhpckgaaDoor.M
