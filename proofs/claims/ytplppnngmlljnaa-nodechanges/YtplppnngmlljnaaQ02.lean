/- A node by definition: which may be, its cells, its page, and what its calls tell. -/
import Derived.Test.YtplppnngmlljnaaQ01
import GoSem.Op.String
namespace Go.Proofs.Ytplppnngmlljnaa.N

/-- The order of texts. -/
def lt (x y : List UInt8) : Bool := Op.bytesLess x y
theorem lt_nil (x : List UInt8) : lt x [] = false := by cases x <;> rfl
theorem lt_cons (a b : UInt8) (x y : List UInt8) : lt (a :: x) (b :: y) = (decide (a < b) || (a == b && lt x y)) := rfl
theorem lt_irrefl : ∀ x : List UInt8, lt x x = false
  | [] => rfl
  | a :: x => by rw [lt_cons, lt_irrefl x]; simp
theorem lt_trans : ∀ {x y z : List UInt8}, lt x y = true → lt y z = true → lt x z = true
  | x, [], z, h, _ => by rw [lt_nil] at h; cases h
  | x, b :: y, [], _, h => by rw [lt_nil] at h; cases h
  | [], b :: y, c :: z, _, _ => rfl
  | a :: x, b :: y, c :: z, h1, h2 => by
    rw [lt_cons] at h1 h2 ⊢
    simp only [Bool.or_eq_true, decide_eq_true_eq, Bool.and_eq_true, beq_iff_eq] at h1 h2 ⊢
    rcases h1 with h1 | ⟨rfl, h1⟩
    · rcases h2 with h2 | ⟨rfl, h2⟩
      · exact .inl (UInt8.lt_trans h1 h2)
      · exact .inl h1
    · rcases h2 with h2 | ⟨rfl, h2⟩
      · exact .inl h2
      · exact .inr ⟨rfl, lt_trans h1 h2⟩
theorem lt_total : ∀ x y : List UInt8, (lt x y || x == y) = !lt y x
  | [], [] => rfl
  | [], b :: y => rfl
  | a :: x, [] => rfl
  | a :: x, b :: y => by
    rw [lt_cons, lt_cons]
    have ih := lt_total x y
    have tri : a < b ∨ a = b ∨ b < a := by
      rcases Nat.lt_trichotomy a.toNat b.toNat with h | h | h
      · exact .inl (UInt8.lt_iff_toNat_lt.2 h)
      · exact .inr (.inl (UInt8.toNat_inj.1 h))
      · exact .inr (.inr (UInt8.lt_iff_toNat_lt.2 h))
    rcases tri with h | h | h
    · have h2 : ¬ b < a := fun c => UInt8.lt_irrefl _ (UInt8.lt_trans h c)
      have h3 : ¬ b = a := fun c => by subst c; exact UInt8.lt_irrefl _ h
      simp [h, h2, h3]
    · subst h
      have h2 : ¬ a < a := UInt8.lt_irrefl a
      simp [h2]
      rw [← ih]
    · have h2 : ¬ a < b := fun c => UInt8.lt_irrefl _ (UInt8.lt_trans h c)
      have h3 : ¬ a = b := fun c => by subst c; exact UInt8.lt_irrefl _ h
      simp [h, h2, h3]
/-- A node. -/
structure Nd where
  leaf : Bool
  keys : List (List UInt8)
  vals : List (List UInt8)
  kids : List Int
def nil : Nd := ⟨false, [], [], []⟩
/-- A key that may not stand where it stands. -/
def badAt (ks : List (List UInt8)) (i : Nat) : Bool := decide (40 < (ks.getD i []).length) || (decide (0 < i) && !lt (ks.getD (i - 1) []) (ks.getD i []))
def keysOk (ks : List (List UInt8)) : Bool := (List.range ks.length).all fun i => !badAt ks i
def valsOk (l : List (List UInt8)) : Bool := l.all fun v => decide (v.length ≤ 49)
def kidsOk (l : List Int) : Bool := l.all fun k => decide (0 ≤ k) && decide (k ≤ 2147483647)
/-- A node that may be. -/
def right (n : Nd) : Bool := keysOk n.keys && if n.leaf then (decide (n.vals.length = n.keys.length) && decide (n.kids.length = 0)) && valsOk n.vals
  else ((decide (0 < n.keys.length) && (n.keys.getD 0 [] == [])) && (decide (n.kids.length = n.keys.length) && decide (n.vals.length = 0))) && kidsOk n.kids
/-- A text as bytes; a node's cells. -/
def txt (b : List UInt8) : List UInt8 := M.enc b.length ++ b
def cell (n : Nd) (i : Nat) : List UInt8 := txt (n.keys.getD i []) ++ if n.leaf then txt (n.vals.getD i []) else M.fix (n.kids.getD i 0).toNat 4
def cells (n : Nd) : List (List UInt8) := (List.range n.keys.length).map (cell n)
def taken (n : Nd) : Nat := if right n = true then M.taken (cells n) else 0
def kind (n : Nd) : UInt8 := if n.leaf then 5 else 6
/-- Its page. -/
def bytesE (no : Int) (n : Nd) : Nat := if right n = false then 22 else if 244 < taken n then 32 else M.fillE no (kind n) (cells n)
def bytesP (no : Int) (n : Nd) : List UInt8 := if right n = false then [] else if 244 < taken n then [] else M.fillP no (kind n) (cells n)
/-- A node that may be, or why not. -/
def told (n : Nd) : Nd × Nat := if right n = true then (n, 0) else (nil, 22)
/-- How many keys are less. -/
def lb (ks : List (List UInt8)) (key : List UInt8) : Nat := (ks.takeWhile fun k => lt k key).length
def isAt (ks : List (List UInt8)) (key : List UInt8) : Bool := ks[lb ks key]? == some key
def findI (n : Nd) (key : List UInt8) : Int := if right n = false then 0 else if n.leaf = false ∧ isAt n.keys key = false then (lb n.keys key : Int) - 1 else lb n.keys key
def findB (n : Nd) (key : List UInt8) : Bool := right n && isAt n.keys key
/-- Other cells in the place of those from i up to j. -/
def change (n : Nd) (i j : Nat) (x : Nd) : Nd := ⟨n.leaf, n.keys.take i ++ (x.keys ++ n.keys.drop j), if n.leaf then n.vals.take i ++ (x.vals ++ n.vals.drop j) else [], if n.leaf then [] else n.kids.take i ++ (x.kids ++ n.kids.drop j)⟩
/-- An inner node's first key is the empty text. -/
def first (n : Nd) : Nd := if n.leaf = false ∧ 0 < n.keys.length then { n with keys := [] :: n.keys.tail } else n
def without (n : Nd) (i j : Nat) : Nd := first (change n i j nil)
def insert (n : Nd) (i : Int) (key val : List UInt8) (kid : Int) : Nd × Nat := if right n = false then (nil, 22) else if i < 0 ∨ (n.keys.length : Int) < i then (nil, 40) else told (change n i.toNat i.toNat ⟨false, [key], [val], [kid]⟩)
def remove (n : Nd) (i : Int) : Nd × Nat := if right n = false then (nil, 22) else if i < 0 ∨ (n.keys.length : Int) ≤ i then (nil, 40) else told (without n i.toNat (i.toNat + 1))
/-- How unlike both parts are; the best place among the first k. -/
def unlike (l : List (List UInt8)) (i : Nat) : Nat := (2 * (M.taken (l.take i) : Int) - M.taken l).natAbs
def mid (l : List (List UInt8)) : Nat → Nat × Nat
  | 0 => (0, M.taken l)
  | k + 1 => if unlike l k < (mid l k).2 then (k, unlike l k) else mid l k
def middle (n : Nd) : Nat := (mid (cells n) n.keys.length).1
def cutE (n : Nd) : Nat := if right n = false then 22 else if n.keys.length < 2 then 40 else 0
def cutA (n : Nd) : Nd := if cutE n = 0 then without n (middle n) n.keys.length else nil
def cutB (n : Nd) : Nd := if cutE n = 0 then without n 0 (middle n) else nil
def join (a : Nd) (key : List UInt8) (b : Nd) : Nd × Nat := if right a = false ∨ right b = false ∨ a.leaf ≠ b.leaf then (nil, 22) else told (change a a.keys.length a.keys.length (if b.leaf then b else { b with keys := key :: b.keys.tail }))
theorem enc_len {n : Nat} (h : n < 128) : (M.enc n).length = 1 := by rw [M.enc_small h]; rfl
end Go.Proofs.Ytplppnngmlljnaa.N
