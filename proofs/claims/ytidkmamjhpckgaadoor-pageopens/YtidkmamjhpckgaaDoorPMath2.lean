/- Pages by definition: a cell put in, taken out, put in the place of another one; pages made of cells. -/
import Derived.Test.YtidkmamjhpckgaaDoorPMath
namespace Go.Proofs.YtidkmamjhpckgaaDoor.M

set_option maxRecDepth 100000 in
theorem kind_put {p : Pg} (hp : p.Ok) : kindP (pbytes p) = p.kind := by rw [kindP, read_pbytes hp]
set_option maxRecDepth 100000 in
theorem cells_put {p : Pg} (hp : p.Ok) : cellsP (pbytes p) = p.cells := by rw [cellsP, read_pbytes hp]
set_option maxRecDepth 100000 in
theorem free_put {p : Pg} (hp : p.Ok) : freeP (pbytes p) = if 242 < taken p.cells then -1 else 242 - (taken p.cells : Int) := by rw [freeP, read_pbytes hp]
set_option maxRecDepth 100000 in
theorem fill_ok {p : Pg} (hp : p.Ok) : fillP p.no p.kind p.cells = pbytes p ∧ fillE p.no p.kind p.cells = 0 := by
  have h1 := hp.no
  have h2 := hp.room
  have hn : ¬ ((p.no : Int) < 0 ∨ 2147483647 < (p.no : Int) ∨ p.kind = 0) := fun c => by
    rcases c with c | c | c
    · omega
    · omega
    · exact hp.kind c
  rw [fillP, fillE, if_neg hn, if_neg hn, if_neg (by omega), if_neg (by omega), Int.toNat_natCast]
  exact ⟨rfl, rfl⟩
set_option maxRecDepth 100000 in
theorem fill_full {p : Pg} (h1 : p.no < 2147483648) (h2 : p.kind ≠ 0) (h3 : 244 < taken p.cells) : fillP p.no p.kind p.cells = [] ∧ fillE p.no p.kind p.cells = 32 := by
  have hn : ¬ ((p.no : Int) < 0 ∨ 2147483647 < (p.no : Int) ∨ p.kind = 0) := fun c => by
    rcases c with c | c | c
    · omega
    · omega
    · exact h2 c
  rw [fillP, fillE, if_neg hn, if_neg hn, if_pos h3, if_pos h3]
  exact ⟨rfl, rfl⟩
set_option maxRecDepth 100000 in
theorem chg_in {p : Pg} (hp : p.Ok) {i out : Nat} (hi : i + out ≤ p.cells.length) (ins : List (List UInt8)) : chgP (pbytes p) i out ins = fillP p.no p.kind (p.cells.take i ++ ins ++ p.cells.drop (i + out)) ∧ chgE (pbytes p) i out ins = fillE p.no p.kind (p.cells.take i ++ ins ++ p.cells.drop (i + out)) := by
  have hn : ¬ ((i : Int) < 0 ∨ (p.cells.length : Int) - (out : Int) < (i : Int)) := by omega
  rw [chgP, chgE, read_pbytes hp]
  simp only
  rw [if_neg hn, if_neg hn, Int.toNat_natCast]
  exact ⟨rfl, rfl⟩
/-- A cell put in. -/
def put1 (cs : List (List UInt8)) (i : Nat) (b : List UInt8) : List (List UInt8) := cs.take i ++ [b] ++ cs.drop i
set_option maxRecDepth 100000 in
theorem put1_taken (cs : List (List UInt8)) (i : Nat) (b : List UInt8) : taken (put1 cs i b) = taken cs + (2 + b.length) := by
  rw [put1, taken_app, taken_app, taken_one, ← taken_take cs i]; omega
set_option maxRecDepth 100000 in
theorem put1_len (cs : List (List UInt8)) (i : Nat) (b : List UInt8) (hi : i ≤ cs.length) : (put1 cs i b).length = cs.length + 1 := by
  rw [put1, List.length_append, List.length_append, List.length_take, List.length_drop]; simp; omega
set_option maxRecDepth 100000 in
theorem put1_take {cs : List (List UInt8)} {i : Nat} (b : List UInt8) (hi : i ≤ cs.length) : (put1 cs i b).take i = cs.take i := by
  rw [put1, List.append_assoc, List.take_left' (by rw [List.length_take]; omega)]
set_option maxRecDepth 100000 in
theorem put1_drop {cs : List (List UInt8)} {i : Nat} (b : List UInt8) (hi : i ≤ cs.length) : (put1 cs i b).drop (i + 1) = cs.drop i := by
  rw [put1, List.drop_left' (by rw [List.length_append, List.length_take]; simp; omega)]
set_option maxRecDepth 100000 in
theorem put1_get {cs : List (List UInt8)} {i : Nat} (b : List UInt8) (hi : i ≤ cs.length) : (put1 cs i b)[i]? = some b := by
  rw [put1, List.append_assoc, List.getElem?_append_right (by rw [List.length_take]; omega), List.length_take, Nat.min_eq_left hi, Nat.sub_self]
  rfl
/-- The page with a cell more. -/
def Pg.put (p : Pg) (i : Nat) (b : List UInt8) : Pg := ⟨p.no, p.kind, put1 p.cells i b⟩
theorem Pg.Ok.put {p : Pg} (h : p.Ok) (i : Nat) {b : List UInt8} (hb : taken p.cells + (2 + b.length) ≤ 244) : (p.put i b).Ok := ⟨h.no, h.kind, by rw [Pg.put, put1_taken]; exact hb⟩
set_option maxRecDepth 100000 in
theorem ins_ok {p : Pg} (hp : p.Ok) {i : Nat} (hi : i ≤ p.cells.length) {b : List UInt8} (hb : taken p.cells + (2 + b.length) ≤ 244) : chgP (pbytes p) i 0 [b] = pbytes (p.put i b) ∧ chgE (pbytes p) i 0 [b] = 0 := by
  rw [(chg_in hp (by omega) _).1, (chg_in hp (by omega) _).2]
  exact fill_ok (hp.put i hb)
set_option maxRecDepth 100000 in
theorem ins_full {p : Pg} (hp : p.Ok) {i : Nat} (hi : i ≤ p.cells.length) {b : List UInt8} (hb : 244 < taken p.cells + (2 + b.length)) : chgP (pbytes p) i 0 [b] = [] ∧ chgE (pbytes p) i 0 [b] = 32 := by
  rw [(chg_in hp (by omega) _).1, (chg_in hp (by omega) _).2]
  exact fill_full (p := p.put i b) hp.no hp.kind (by rw [Pg.put, put1_taken]; exact hb)
set_option maxRecDepth 100000 in
theorem rem_ok {p : Pg} (hp : p.Ok) {i : Nat} (hi : i ≤ p.cells.length) {b : List UInt8} (hb : taken p.cells + (2 + b.length) ≤ 244) : chgP (pbytes (p.put i b)) i 1 [] = pbytes p ∧ chgE (pbytes (p.put i b)) i 1 [] = 0 := by
  have hl := put1_len p.cells i b hi
  have hq := hp.put i hb
  have e : (p.put i b).cells.take i ++ [] ++ (p.put i b).cells.drop (i + 1) = p.cells := by
    show (put1 p.cells i b).take i ++ [] ++ (put1 p.cells i b).drop (i + 1) = _
    rw [put1_take b hi, put1_drop b hi, List.append_nil, List.take_append_drop]
  rw [(chg_in hq (by show i + 1 ≤ (put1 p.cells i b).length; omega) _).1, (chg_in hq (by show i + 1 ≤ (put1 p.cells i b).length; omega) _).2, e]
  exact fill_ok hp
set_option maxRecDepth 100000 in
theorem rep_ok {p : Pg} (hp : p.Ok) {i : Nat} (hi : i ≤ p.cells.length) {b c : List UInt8} (hb : taken p.cells + (2 + b.length) ≤ 244) (hc : taken p.cells + (2 + c.length) ≤ 244) : chgP (pbytes (p.put i b)) i 1 [c] = pbytes (p.put i c) ∧ chgE (pbytes (p.put i b)) i 1 [c] = 0 := by
  have hl := put1_len p.cells i b hi
  have hq := hp.put i hb
  have e : (p.put i b).cells.take i ++ [c] ++ (p.put i b).cells.drop (i + 1) = (p.put i c).cells := by
    show (put1 p.cells i b).take i ++ [c] ++ (put1 p.cells i b).drop (i + 1) = _
    rw [put1_take b hi, put1_drop b hi]; rfl
  rw [(chg_in hq (by show i + 1 ≤ (put1 p.cells i b).length; omega) _).1, (chg_in hq (by show i + 1 ≤ (put1 p.cells i b).length; omega) _).2, e]
  exact fill_ok (hp.put i hc)
set_option maxRecDepth 100000 in
theorem rep_full {p : Pg} (hp : p.Ok) {i : Nat} (hi : i ≤ p.cells.length) {b c : List UInt8} (hb : taken p.cells + (2 + b.length) ≤ 244) (hc : 244 < taken p.cells + (2 + c.length)) : chgP (pbytes (p.put i b)) i 1 [c] = [] ∧ chgE (pbytes (p.put i b)) i 1 [c] = 32 := by
  have hl := put1_len p.cells i b hi
  have hq := hp.put i hb
  have e : (p.put i b).cells.take i ++ [c] ++ (p.put i b).cells.drop (i + 1) = (p.put i c).cells := by
    show (put1 p.cells i b).take i ++ [c] ++ (put1 p.cells i b).drop (i + 1) = _
    rw [put1_take b hi, put1_drop b hi]; rfl
  rw [(chg_in hq (by show i + 1 ≤ (put1 p.cells i b).length; omega) _).1, (chg_in hq (by show i + 1 ≤ (put1 p.cells i b).length; omega) _).2, e]
  exact fill_full (p := p.put i c) hp.no hp.kind (by rw [Pg.put, put1_taken]; exact hc)
/-- The cells of a page that is made of cells, one by one. -/
def madeS (cs : List (List UInt8)) (b : List UInt8) : List (List UInt8) := if 244 < taken cs + (2 + (b.take 60).length) then cs else cs ++ [b.take 60]
def madeN (l : List (List UInt8)) (k : Nat) : List (List UInt8) := (l.take k).foldl madeS []
theorem madeN_zero (l : List (List UInt8)) : madeN l 0 = [] := rfl
set_option maxRecDepth 100000 in
theorem madeN_more {l : List (List UInt8)} {k : Nat} {b : List UInt8} (h : l[k]? = some b) : madeN l (k + 1) = madeS (madeN l k) b := by
  rw [madeN, List.take_add_one, h]
  show List.foldl madeS [] (l.take k ++ [b]) = _
  rw [List.foldl_append]; rfl
set_option maxRecDepth 100000 in
theorem madeS_ok {cs : List (List UInt8)} (h : taken cs ≤ 244) (b : List UInt8) : taken (madeS cs b) ≤ 244 := by
  unfold madeS
  split
  · exact h
  · rw [taken_app, taken_one]; omega
set_option maxRecDepth 100000 in
theorem madeN_ok (l : List (List UInt8)) : ∀ k, taken (madeN l k) ≤ 244
  | 0 => by rw [madeN_zero, taken_nil]; omega
  | k + 1 => by
    cases hk : l[k]? with
    | none =>
      have e : madeN l (k + 1) = madeN l k := by rw [madeN, List.take_add_one, hk]; simp [madeN]
      rw [e]; exact madeN_ok l k
    | some b => rw [madeN_more hk]; exact madeS_ok (madeN_ok l k) b
def made (cs : List (List UInt8)) : Pg := ⟨9, 3, cs⟩
theorem made_ok {cs : List (List UInt8)} (h : taken cs ≤ 244) : (made cs).Ok := ⟨by show (9 : Nat) < _; decide, by show (3 : UInt8) ≠ 0; decide, h⟩
set_option maxRecDepth 100000 in
theorem put_end (p : Pg) (b : List UInt8) : p.put p.cells.length b = ⟨p.no, p.kind, p.cells ++ [b]⟩ := by
  rw [Pg.put, put1, List.take_length, List.drop_length, List.append_nil]
end Go.Proofs.YtidkmamjhpckgaaDoor.M
