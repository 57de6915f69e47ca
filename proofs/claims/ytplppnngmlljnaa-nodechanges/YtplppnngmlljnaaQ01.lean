/- Texts put together: Math, PMath, PMath2. -/
import Ieee.Arith
/- Numbers, texts and floats as bytes, and back: by definition. -/
namespace Go.Proofs.Ytplppnngmlljnaa.M

/-- A number's groups of seven bits, as many as k and one more at most. -/
def encF : Nat → Nat → List UInt8
  | 0, n => [UInt8.ofNat n]
  | k + 1, n => if n < 128 then [UInt8.ofNat n] else UInt8.ofNat (n % 128 + 128) :: encF k (n / 128)
/-- A number's groups of seven bits. -/
def enc (n : Nat) : List UInt8 := encF n n
theorem encF_small {n : Nat} (h : n < 128) : ∀ k, encF k n = [UInt8.ofNat n]
  | 0 => rfl
  | k + 1 => by rw [encF, if_pos h]
theorem encF_eq : ∀ k m n, n ≤ k → n ≤ m → encF k n = encF m n
  | 0, m, n, h, _ => by rw [encF_small (by omega), encF_small (by omega)]
  | k + 1, 0, n, _, h => by rw [encF_small (by omega), encF_small (by omega)]
  | k + 1, m + 1, n, h1, h2 => by
    by_cases h : n < 128
    · rw [encF_small h, encF_small h]
    · rw [encF, encF, if_neg h, if_neg h, encF_eq k m (n / 128) (by omega) (by omega)]
theorem enc_small {n : Nat} (h : n < 128) : enc n = [UInt8.ofNat n] := encF_small h n
theorem enc_big {n : Nat} (h : ¬ n < 128) : enc n = UInt8.ofNat (n % 128 + 128) :: enc (n / 128) := by
  obtain ⟨k, rfl⟩ : ∃ k, n = k + 1 := ⟨n - 1, by omega⟩
  show encF (k + 1) (k + 1) = _ :: encF ((k + 1) / 128) ((k + 1) / 128)
  rw [encF, if_neg h, encF_eq k ((k + 1) / 128) _ (by omega) (Nat.le_refl _)]

/-- Bytes are read as a number, from its byte number i on: why not, or the number and what is left. -/
def scan : Nat → List UInt8 → Except Nat (Nat × List UInt8)
  | _, [] => .error 21
  | i, c :: l =>
    if (i = 9 ∧ 1 < c.toNat) ∨ (0 < i ∧ c.toNat = 0) then .error 22
    else if 128 ≤ c.toNat then
      match scan (i + 1) l with
      | .error e => .error e
      | .ok (n, r) => .ok (c.toNat % 128 + 128 * n, r)
    else .ok (c.toNat, l)
/-- m, and behind i groups what is read. -/
def plus (m i : Nat) : Except Nat (Nat × List UInt8) → Except Nat (Nat × List UInt8)
  | .error e => .error e
  | .ok (n, r) => .ok (m + 2 ^ (7 * i) * n, r)
theorem plus_zero (x : Except Nat (Nat × List UInt8)) : plus 0 0 x = x := by
  cases x with
  | error e => rfl
  | ok v => simp [plus]
theorem plus_nil (m i : Nat) : plus m i (scan i []) = .error 21 := rfl
theorem plus_bad (m i : Nat) (c : UInt8) (l : List UInt8) (h : (i = 9 ∧ 1 < c.toNat) ∨ (0 < i ∧ c.toNat = 0)) : plus m i (scan i (c :: l)) = .error 22 := by
  rw [scan, if_pos h]; rfl
theorem plus_more (m i : Nat) (c : UInt8) (l : List UInt8) (h : ¬ ((i = 9 ∧ 1 < c.toNat) ∨ (0 < i ∧ c.toNat = 0))) (h2 : 128 ≤ c.toNat) :
    plus m i (scan i (c :: l)) = plus (m + c.toNat % 128 * 2 ^ (7 * i)) (i + 1) (scan (i + 1) l) := by
  rw [scan, if_neg h, if_pos h2]
  cases scan (i + 1) l with
  | error e => rfl
  | ok v =>
    simp only [plus]
    congr 2
    rw [Nat.mul_add, show 7 * (i + 1) = 7 * i + 7 by omega, Nat.pow_add, Nat.mul_comm (2 ^ (7 * i)) (c.toNat % 128), Nat.add_assoc, Nat.mul_assoc]
theorem plus_last (m i : Nat) (c : UInt8) (l : List UInt8) (h : ¬ ((i = 9 ∧ 1 < c.toNat) ∨ (0 < i ∧ c.toNat = 0))) (h2 : ¬ 128 ≤ c.toNat) :
    plus m i (scan i (c :: l)) = .ok (m + c.toNat % 128 * 2 ^ (7 * i), l) := by
  rw [scan, if_neg h, if_neg h2]
  simp only [plus]
  rw [Nat.mul_comm, Nat.mod_eq_of_lt (by omega)]

theorem ofNat_toNat (n : Nat) (h : n < 256) : (UInt8.ofNat n).toNat = n := by simp; omega
/-- What is put is read. -/
theorem scan_enc (tail : List UInt8) : ∀ (j i n : Nat), i + j = 9 → n < 2 ^ (1 + 7 * j) → (0 < i → 0 < n) → scan i (enc n ++ tail) = .ok (n, tail) := by
  intro j
  induction j with
  | zero =>
    intro i n hi hn h0
    have hn2 : n < 2 := by simpa using hn
    rw [enc_small (by omega), List.singleton_append, scan, ofNat_toNat _ (by omega), if_neg (by have := h0 (by omega); omega), if_neg (by omega)]
  | succ j ih =>
    intro i n hi hn h0
    by_cases h : n < 128
    · rw [enc_small h, List.singleton_append, scan, ofNat_toNat _ (by omega), if_neg (by omega), if_neg (by omega)]
    · rw [enc_big h, List.cons_append, scan, ofNat_toNat _ (by omega), if_neg (by omega), if_pos (by omega)]
      have hd : n / 128 < 2 ^ (1 + 7 * j) := by
        rw [Nat.div_lt_iff_lt_mul (by omega)]
        rw [show 1 + 7 * (j + 1) = 1 + 7 * j + 7 by omega, Nat.pow_add] at hn
        exact hn
      rw [ih (i + 1) (n / 128) (by omega) hd (fun _ => by omega)]
      simp only
      congr 2
      omega
theorem scan_put (n : Nat) (h : n < 18446744073709551616) (tail : List UInt8) : scan 0 (enc n ++ tail) = .ok (n, tail) := scan_enc tail 9 0 n rfl (by simpa using h) (by simp)
/-- What is read was put so. -/
theorem enc_scan : ∀ (l : List UInt8) (j i n : Nat) (r : List UInt8), i + j = 9 → scan i l = .ok (n, r) → l = enc n ++ r ∧ n < 2 ^ (1 + 7 * j) ∧ (0 < i → 0 < n) := by
  intro l
  induction l with
  | nil => intro j i n r _ h; cases h
  | cons c l ih =>
    intro j i n r hi h
    rw [scan] at h
    split at h
    · cases h
    · rename_i hb
      split at h
      · rename_i h128
        have h9 : i ≠ 9 := by intro e; exact hb (.inl ⟨e, by omega⟩)
        cases hs : scan (i + 1) l with
        | error e => rw [hs] at h; cases h
        | ok v =>
          obtain ⟨m, q⟩ := v
          rw [hs] at h
          simp only [Except.ok.injEq, Prod.mk.injEq] at h
          obtain ⟨rfl, rfl⟩ := h
          obtain ⟨k, rfl⟩ : ∃ k, j = k + 1 := ⟨j - 1, by omega⟩
          obtain ⟨h1, h2, h3⟩ := ih k (i + 1) m q (by omega) hs
          have hm := h3 (by omega)
          have hc := c.toNat_lt
          refine ⟨?_, ?_, fun _ => by omega⟩
          · rw [enc_big (by omega), List.cons_append, show (c.toNat % 128 + 128 * m) / 128 = m by omega, ← h1, show (c.toNat % 128 + 128 * m) % 128 + 128 = c.toNat by omega]
            simp
          · rw [show 1 + 7 * (k + 1) = 1 + 7 * k + 7 by omega, Nat.pow_add]
            have : m + 1 ≤ 2 ^ (1 + 7 * k) := h2
            have := Nat.mul_le_mul_right 128 this
            show _ < _ * 128
            omega
      · rename_i h128
        simp only [Except.ok.injEq, Prod.mk.injEq] at h
        obtain ⟨rfl, rfl⟩ := h
        refine ⟨?_, ?_, fun _ => by omega⟩
        · rw [enc_small (by omega)]; simp
        · by_cases h9 : i = 9
          · obtain rfl : j = 0 := by omega
            simp; omega
          · have : 2 ^ 8 ≤ 2 ^ (1 + 7 * j) := Nat.pow_le_pow_right (by decide) (by omega)
            omega
theorem scan_one {l r : List UInt8} {n : Nat} (h : scan 0 l = .ok (n, r)) : l = enc n ++ r ∧ n < 18446744073709551616 := by
  obtain ⟨h1, h2, _⟩ := enc_scan l 9 0 n r rfl h
  exact ⟨h1, by simpa using h2⟩
theorem len_enc (n : Nat) : ∀ k, n < 128 ^ k → 0 < k → (enc n).length ≤ k := by
  induction n using Nat.strongRecOn with
  | _ n ih =>
    intro k hk h0
    by_cases h : n < 128
    · rw [enc_small h]; simp; omega
    · rw [enc_big h]
      obtain ⟨j, rfl⟩ : ∃ j, k = j + 1 := ⟨k - 1, by omega⟩
      have h1 : n / 128 < 128 ^ j := by rw [Nat.div_lt_iff_lt_mul (by omega)]; rw [Nat.pow_succ] at hk; exact hk
      have hj : 0 < j := by
        rcases Nat.eq_zero_or_pos j with rfl | hj
        · simp at h1; omega
        · exact hj
      have := ih (n / 128) (by omega) j h1 hj
      simp; omega
theorem len_enc10 {n : Nat} (h : n < 18446744073709551616) : (enc n).length ≤ 10 := len_enc n 10 (by omega) (by omega)

/-- A number's lowest bytes, the highest first. -/
def fix (n : Nat) : Nat → List UInt8
  | 0 => []
  | k + 1 => fix (n / 256) k ++ [UInt8.ofNat (n % 256)]
def unfix (l : List UInt8) : Nat := l.foldl (fun a c => a * 256 + c.toNat) 0
theorem len_fix (k : Nat) : ∀ n, (fix n k).length = k := by
  induction k with
  | zero => intro n; rfl
  | succ k ih => intro n; rw [fix, List.length_append, ih]; rfl
theorem unfix_snoc (l : List UInt8) (c : UInt8) : unfix (l ++ [c]) = unfix l * 256 + c.toNat := by simp [unfix]
theorem unfix_fix (k : Nat) : ∀ n, unfix (fix n k) = n % 256 ^ k := by
  induction k with
  | zero => intro n; rw [fix]; simp [unfix, Nat.mod_one]
  | succ k ih =>
    intro n
    rw [fix, unfix_snoc, ih, ofNat_toNat _ (by omega), Nat.pow_succ, Nat.mul_comm (256 ^ k) 256, Nat.mod_mul]
    omega
theorem fix_unfix (k : Nat) : ∀ l : List UInt8, l.length = k → fix (unfix l) k = l ∧ unfix l < 256 ^ k := by
  induction k with
  | zero => intro l hl; obtain rfl := List.eq_nil_of_length_eq_zero hl; exact ⟨rfl, by simp [unfix]⟩
  | succ k ih =>
    intro l hl
    have hne : l ≠ [] := by intro e; rw [e] at hl; cases hl
    obtain ⟨h1, h2⟩ := ih l.dropLast (by rw [List.length_dropLast]; omega)
    have hc := (l.getLast hne).toNat_lt
    rw [← List.dropLast_concat_getLast hne, unfix_snoc]
    refine ⟨?_, ?_⟩
    · rw [fix, show (unfix l.dropLast * 256 + (l.getLast hne).toNat) / 256 = unfix l.dropLast by omega, show (unfix l.dropLast * 256 + (l.getLast hne).toNat) % 256 = (l.getLast hne).toNat by omega, h1]
      simp
    · rw [Nat.pow_succ]; omega

def zero (b : Nat) : Bool := Ieee.double.order b 0 == some .eq
end Go.Proofs.Ytplppnngmlljnaa.M

/- Pages by definition: what they are as bytes, and what bytes are as a page. -/
namespace Go.Proofs.Ytplppnngmlljnaa.M

/-- Where cells end, counted from b on, as bytes. -/
def ends : Nat → List (List UInt8) → List UInt8
  | _, [] => []
  | b, c :: l => fix (b + c.length) 2 ++ ends (b + c.length) l
theorem len_ends : ∀ (l : List (List UInt8)) (b : Nat), (ends b l).length = 2 * l.length
  | [], _ => rfl
  | c :: l, b => by rw [ends, List.length_append, len_fix, len_ends l, List.length_cons]; omega
theorem ends_snoc : ∀ (l : List (List UInt8)) (b : Nat) (c : List UInt8), ends b (l ++ [c]) = ends b l ++ fix (b + l.flatten.length + c.length) 2
  | [], b, c => by simp [ends]
  | d :: l, b, c => by
    rw [List.cons_append, ends, ends_snoc l, ends, List.append_assoc, List.flatten_cons, List.length_append]
    congr 3
    omega
theorem ends_app : ∀ (l : List (List UInt8)) (b : Nat) (m : List (List UInt8)), ends b (l ++ m) = ends b l ++ ends (b + l.flatten.length) m
  | [], b, m => by simp [ends]
  | d :: l, b, m => by
    rw [List.cons_append, ends, ends_app l, ends, List.append_assoc, List.flatten_cons, List.length_append, Nat.add_assoc]
/-- How many bytes of a page's room cells take. -/
def taken (l : List (List UInt8)) : Nat := 2 * l.length + l.flatten.length
set_option maxRecDepth 100000 in
theorem taken_app (l m : List (List UInt8)) : taken (l ++ m) = taken l + taken m := by
  simp only [taken, List.length_append, List.flatten_append]; omega
set_option maxRecDepth 100000 in
theorem taken_one (c : List UInt8) : taken [c] = 2 + c.length := by simp [taken]
set_option maxRecDepth 100000 in
theorem taken_take (l : List (List UInt8)) (k : Nat) : taken (l.take k) + taken (l.drop k) = taken l := by
  rw [← taken_app, List.take_append_drop]
/-- A page. -/
structure Pg where
  no : Nat
  kind : UInt8
  cells : List (List UInt8)
structure Pg.Ok (p : Pg) : Prop where
  no : p.no < 2147483648
  kind : p.kind ≠ 0
  room : taken p.cells ≤ 244
set_option maxRecDepth 100000 in
theorem Pg.Ok.count {p : Pg} (h : p.Ok) : p.cells.length ≤ 122 ∧ p.cells.flatten.length ≤ 244 := by
  have := h.room
  unfold taken at this
  omega
/-- The room of a page with these cells. -/
def room (l : List (List UInt8)) : List UInt8 := ends 0 l ++ (l.flatten ++ List.replicate (244 - taken l) 0)
set_option maxRecDepth 100000 in
theorem len_room {l : List (List UInt8)} (h : taken l ≤ 244) : (room l).length = 244 := by
  rw [room, List.length_append, List.length_append, len_ends, List.length_replicate]
  unfold taken at h ⊢
  omega
/-- What stands ahead of the room. -/
def phead (no : Nat) (kind : UInt8) (n t : Nat) : List UInt8 := fix no 4 ++ (kind :: UInt8.ofNat n :: fix t 2)
set_option maxRecDepth 100000 in
theorem len_phead (no : Nat) (kind : UInt8) (n t : Nat) : (phead no kind n t).length = 8 := by
  rw [phead, List.length_append, len_fix, List.length_cons, List.length_cons, len_fix]
/-- A page but for its last four bytes. -/
def pfirst (p : Pg) : List UInt8 := phead p.no p.kind p.cells.length p.cells.flatten.length ++ room p.cells
set_option maxRecDepth 100000 in
theorem len_pfirst {p : Pg} (h : taken p.cells ≤ 244) : (pfirst p).length = 252 := by
  rw [pfirst, List.length_append, len_phead, len_room h]
/-- A page. -/
def pbytes (p : Pg) : List UInt8 := pfirst p ++ [0, 0, 0, 0]
set_option maxRecDepth 100000 in
theorem len_pbytes {p : Pg} (h : taken p.cells ≤ 244) : (pbytes p).length = 256 := by
  rw [pbytes, List.length_append, len_pfirst h]; rfl
set_option maxRecDepth 100000 in
theorem take_pbytes {p : Pg} (h : taken p.cells ≤ 244) : (pbytes p).take 252 = pfirst p := by
  rw [pbytes, List.take_left' (len_pfirst h)]

/-- The first k cells, and where the last of them ends. -/
def cutK (es all : List UInt8) (t : Nat) : Nat → Option (List (List UInt8) × Nat)
  | 0 => some ([], 0)
  | k + 1 => match cutK es all t k with
    | none => none
    | some x => if unfix ((es.drop (2 * k)).take 2) < x.2 ∨ t < unfix ((es.drop (2 * k)).take 2) then none
      else some (x.1 ++ [(all.drop x.2).take (unfix ((es.drop (2 * k)).take 2) - x.2)], unfix ((es.drop (2 * k)).take 2))
theorem cutK_none {es all : List UInt8} {t k : Nat} (h : cutK es all t k = none) : ∀ d, cutK es all t (k + d) = none
  | 0 => h
  | d + 1 => by
    show cutK es all t (k + d + 1) = none
    rw [cutK, cutK_none h d]
set_option maxRecDepth 100000 in
theorem cutK_none' {es all : List UInt8} {t k n : Nat} (h : cutK es all t k = none) (hn : k ≤ n) : cutK es all t n = none := by
  have := cutK_none h (n - k)
  rwa [show k + (n - k) = n by omega] at this
set_option maxRecDepth 100000 in
theorem cutK_bad {es all : List UInt8} {t k : Nat} {x : List (List UInt8) × Nat} (h : cutK es all t k = some x) (hb : unfix ((es.drop (2 * k)).take 2) < x.2 ∨ t < unfix ((es.drop (2 * k)).take 2)) : cutK es all t (k + 1) = none := by
  rw [cutK, h]; simp only; rw [if_pos hb]
set_option maxRecDepth 100000 in
theorem cutK_more {es all : List UInt8} {t k : Nat} {x : List (List UInt8) × Nat} (h : cutK es all t k = some x) (hb : ¬ (unfix ((es.drop (2 * k)).take 2) < x.2 ∨ t < unfix ((es.drop (2 * k)).take 2))) : cutK es all t (k + 1) = some (x.1 ++ [(all.drop x.2).take (unfix ((es.drop (2 * k)).take 2) - x.2)], unfix ((es.drop (2 * k)).take 2)) := by
  rw [cutK, h]; simp only; rw [if_neg hb]
/-- What the first k cells are. -/
structure Cuts (es all : List UInt8) (t k : Nat) (cs : List (List UInt8)) (b : Nat) : Prop where
  n : cs.length = k
  at_ : cs.flatten.length = b
  le : b ≤ t
  ends : ends 0 cs = es.take (2 * k)
  all : cs.flatten = all.take b
set_option maxRecDepth 100000 in
theorem cutK_is {es all : List UInt8} {t : Nat} (ha : t ≤ all.length) : ∀ (k : Nat) (cs : List (List UInt8)) (b : Nat), 2 * k ≤ es.length → cutK es all t k = some (cs, b) → Cuts es all t k cs b
  | 0, cs, b, _, h => by
    obtain ⟨rfl, rfl⟩ : cs = [] ∧ b = 0 := by simpa [cutK, eq_comm] using h
    exact ⟨rfl, rfl, Nat.zero_le _, rfl, rfl⟩
  | k + 1, cs, b, hk, h => by
    cases hc : cutK es all t k with
    | none => rw [cutK, hc] at h; cases h
    | some x =>
      obtain ⟨cs0, b0⟩ := x
      have ih := cutK_is ha k cs0 b0 (by omega) hc
      by_cases hb : unfix ((es.drop (2 * k)).take 2) < b0 ∨ t < unfix ((es.drop (2 * k)).take 2)
      · rw [cutK_bad hc hb] at h; cases h
      · rw [cutK_more hc hb] at h
        have hl : ((es.drop (2 * k)).take 2).length = 2 := by rw [List.length_take, List.length_drop]; omega
        obtain ⟨h1, h2⟩ := fix_unfix 2 _ hl
        generalize unfix ((es.drop (2 * k)).take 2) = e at *
        obtain ⟨rfl, rfl⟩ : cs0 ++ [(all.drop b0).take (e - b0)] = cs ∧ e = b := by simpa using h
        have hlen : ((all.drop b0).take (e - b0)).length = e - b0 := by rw [List.length_take, List.length_drop]; omega
        refine ⟨by rw [List.length_append, ih.n]; rfl, ?_, by omega, ?_, ?_⟩
        · rw [List.flatten_append, List.length_append, ih.at_]; simp; omega
        · rw [ends_snoc, ih.ends, ih.at_, hlen, show 0 + b0 + (e - b0) = e by omega, h1, show 2 * (k + 1) = 2 * k + 2 by omega, List.take_add]
        · rw [List.flatten_append, ih.all]
          simp only [List.flatten_cons, List.flatten_nil, List.append_nil]
          rw [show e = b0 + (e - b0) by omega, List.take_add]
          congr 2
          omega
set_option maxRecDepth 100000 in
/-- What is put is cut so. -/
theorem cutK_put {cs : List (List UInt8)} {z : List UInt8} (h : taken cs ≤ 244) : ∀ k, k ≤ cs.length → cutK (ends 0 cs) (cs.flatten ++ z) cs.flatten.length k = some (cs.take k, (cs.take k).flatten.length)
  | 0, _ => by simp [cutK]
  | k + 1, hk => by
    have ih := cutK_put (z := z) h k (by omega)
    obtain ⟨c, hc⟩ : ∃ c, cs[k]? = some c := ⟨cs[k], List.getElem?_eq_getElem (by omega)⟩
    have e1 : cs.take (k + 1) = cs.take k ++ [c] := by rw [List.take_add_one, hc]; rfl
    have e2 : cs = cs.take k ++ ([c] ++ cs.drop (k + 1)) := by rw [← List.append_assoc, ← e1, List.take_append_drop]
    have hl : (cs.take k).flatten.length + c.length ≤ cs.flatten.length := by
      conv => rhs; rw [e2]
      simp only [List.flatten_append, List.length_append, List.flatten_cons, List.flatten_nil, List.append_nil]
      omega
    have h244 : cs.flatten.length ≤ 244 := by unfold taken at h; omega
    have hu : unfix (((ends 0 cs).drop (2 * k)).take 2) = (cs.take k).flatten.length + c.length := by
      have e3 : ((ends 0 cs).drop (2 * k)).take 2 = fix ((cs.take k).flatten.length + c.length) 2 := by
        have key : ∀ m : List (List UInt8), ((ends 0 (cs.take k ++ ([c] ++ m))).drop (2 * k)).take 2 = fix ((cs.take k).flatten.length + c.length) 2 := by
          intro m
          rw [ends_app, List.drop_left' (by rw [len_ends, List.length_take]; omega), List.singleton_append, ends, List.take_left' (len_fix _ _), Nat.zero_add]
        have q := key (cs.drop (k + 1))
        rw [← e2] at q
        exact q
      rw [e3, unfix_fix]
      omega
    have hfl : (cs.take (k + 1)).flatten.length = (cs.take k).flatten.length + c.length := by rw [e1]; simp
    have hb : ¬ (unfix (((ends 0 cs).drop (2 * k)).take 2) < (cs.take k).flatten.length ∨ cs.flatten.length < unfix (((ends 0 cs).drop (2 * k)).take 2)) := by rw [hu]; omega
    rw [cutK_more ih hb, hu, e1]
    congr 2
    · congr 1
      have e4 : cs.flatten ++ z = (cs.take k).flatten ++ (c ++ ((cs.drop (k + 1)).flatten ++ z)) := by
        conv => lhs; rw [e2]
        simp
      simp only
      rw [e4, List.drop_left' rfl, show (cs.take k).flatten.length + c.length - (cs.take k).flatten.length = c.length by omega, List.take_left' rfl]
    · simp
/-- Some byte is not 0. -/
def some0 (l : List UInt8) : Bool := l.any (· != 0)
set_option maxRecDepth 100000 in
theorem some0_no {l : List UInt8} (h : some0 l = false) : l = List.replicate l.length 0 := by
  rw [some0, List.any_eq_false] at h
  exact List.eq_replicate_of_mem (fun b hb => by simpa using h b hb)
set_option maxRecDepth 100000 in
theorem some0_zeros (n : Nat) : some0 (List.replicate n 0) = false := by
  rw [some0, List.any_eq_false]
  intro x hx
  rw [(List.mem_replicate.1 hx).2]; simp
/-- The cells that stand in a room. -/
def cutC (rm : List UInt8) (n t : Nat) : Option (List (List UInt8)) :=
  if 244 < 2 * n + t then none else
  match cutK (rm.take (2 * n)) (rm.drop (2 * n)) t n with
  | none => none
  | some x => if x.2 = t ∧ some0 ((rm.drop (2 * n)).drop t) = false then some x.1 else none
/-- The page that bytes are. -/
def readP (bs : List UInt8) : Option Pg :=
  if bs.length ≠ 256 then none else
  match cutC ((bs.drop 8).take 244) (bs.getD 5 0).toNat (unfix ((bs.drop 6).take 2)) with
  | none => none
  | some cs => if 2147483647 < unfix (bs.take 4) ∨ bs.getD 4 0 = 0 then none else some ⟨unfix (bs.take 4), bs.getD 4 0, cs⟩
set_option maxRecDepth 100000 in
theorem cutC_is {rm : List UInt8} {n t : Nat} {cs : List (List UInt8)} (hl : rm.length = 244) (h : cutC rm n t = some cs) : taken cs ≤ 244 ∧ cs.length = n ∧ cs.flatten.length = t ∧ rm = room cs := by
  unfold cutC at h
  split at h
  · cases h
  · rename_i hle
    cases hc : cutK (rm.take (2 * n)) (rm.drop (2 * n)) t n with
    | none => rw [hc] at h; cases h
    | some x =>
      obtain ⟨c, b⟩ := x
      rw [hc] at h
      simp only at h
      split at h
      · rename_i hq
        obtain ⟨rfl, hz⟩ := hq
        obtain rfl : c = cs := by simpa using h
        have q := cutK_is (by rw [List.length_drop]; omega) n c b (by rw [List.length_take]; omega) hc
        have ht : taken c = 2 * n + b := by rw [taken, q.n, q.at_]
        refine ⟨by omega, q.n, q.at_, ?_⟩
        rw [room, q.ends, q.all, ht]
        have e := some0_no hz
        rw [List.length_drop, List.length_drop, hl, show 244 - 2 * n - b = 244 - (2 * n + b) by omega] at e
        rw [← e, List.take_append_drop, List.take_take, Nat.min_self, List.take_append_drop]
      · cases h
set_option maxRecDepth 100000 in
theorem cutC_room {cs : List (List UInt8)} (h : taken cs ≤ 244) : cutC (room cs) cs.length cs.flatten.length = some cs := by
  have e1 : (room cs).take (2 * cs.length) = ends 0 cs := by rw [room, List.take_left' (len_ends _ _)]
  have e2 : (room cs).drop (2 * cs.length) = cs.flatten ++ List.replicate (244 - taken cs) 0 := by rw [room, List.drop_left' (len_ends _ _)]
  have ht : ¬ 244 < 2 * cs.length + cs.flatten.length := by unfold taken at h; omega
  rw [cutC, if_neg ht, e1, e2, cutK_put h cs.length (Nat.le_refl _)]
  simp only [List.take_length]
  rw [List.drop_left' rfl, some0_zeros]
  simp
set_option maxRecDepth 100000 in
theorem parts8 {bs : List UInt8} (h : bs.length = 256) : bs.take 252 = phead (unfix (bs.take 4)) (bs.getD 4 0) (bs.getD 5 0).toNat (unfix ((bs.drop 6).take 2)) ++ (bs.drop 8).take 244 := by
  have h1 := (fix_unfix 4 (bs.take 4) (by rw [List.length_take]; omega)).1
  have h2 := (fix_unfix 2 ((bs.drop 6).take 2) (by rw [List.length_take, List.length_drop]; omega)).1
  rw [phead, h1, h2]
  have e1 : bs.take 252 = bs.take 4 ++ (bs.drop 4).take 248 := by rw [show 252 = 4 + 248 from rfl, List.take_add]
  have e2 : bs.drop 4 = bs.getD 4 0 :: bs.getD 5 0 :: bs.drop 6 := by
    rw [List.drop_eq_getElem_cons (by omega : 4 < bs.length), List.drop_eq_getElem_cons (by omega : 5 < bs.length)]
    rw [List.getD_eq_getElem?_getD, List.getElem?_eq_getElem (by omega : 4 < bs.length), List.getD_eq_getElem?_getD, List.getElem?_eq_getElem (by omega : 5 < bs.length)]
    rfl
  have e3 : (bs.drop 6).take 246 = (bs.drop 6).take 2 ++ (bs.drop 8).take 244 := by rw [show 246 = 2 + 244 from rfl, List.take_add, List.drop_drop]
  rw [e1, e2, List.take_succ_cons, List.take_succ_cons, e3]
  simp
set_option maxRecDepth 100000 in
theorem read_ok {bs : List UInt8} {p : Pg} (h : readP bs = some p) : p.Ok ∧ bs.length = 256 ∧ bs.take 252 = pfirst p := by
  unfold readP at h
  split at h
  · cases h
  · rename_i hl
    have hl : bs.length = 256 := by omega
    cases hc : cutC ((bs.drop 8).take 244) (bs.getD 5 0).toNat (unfix ((bs.drop 6).take 2)) with
    | none => rw [hc] at h; cases h
    | some cs =>
      rw [hc] at h
      simp only at h
      split at h
      · cases h
      · rename_i hn
        obtain rfl : (⟨unfix (bs.take 4), bs.getD 4 0, cs⟩ : Pg) = p := by simpa using h
        obtain ⟨q1, q2, q3, q4⟩ := cutC_is (by rw [List.length_take, List.length_drop]; omega) hc
        refine ⟨⟨by simp only; omega, fun e => hn (.inr e), q1⟩, hl, ?_⟩
        rw [parts8 hl, pfirst]
        simp only
        rw [q2, q3, ← q4]
set_option maxRecDepth 100000 in
theorem read_of {bs : List UInt8} {p : Pg} (hp : p.Ok) (hl : bs.length = 256) (h : bs.take 252 = pfirst p) : readP bs = some p := by
  obtain ⟨hc1, hc2⟩ := hp.count
  have hk : bs = pfirst p ++ bs.drop 252 := by rw [← h, List.take_append_drop]
  have l1 := len_pfirst hp.room
  have l2 := len_phead p.no p.kind p.cells.length p.cells.flatten.length
  have e4 : bs.take 4 = fix p.no 4 := by rw [hk, pfirst, phead, List.append_assoc, List.append_assoc, List.take_left' (len_fix _ _)]
  have e5 : bs.drop 4 = p.kind :: UInt8.ofNat p.cells.length :: (fix p.cells.flatten.length 2 ++ (room p.cells ++ bs.drop 252)) := by
    conv => lhs; rw [hk, pfirst, phead]
    rw [List.append_assoc, List.append_assoc, List.drop_left' (len_fix _ _)]
    simp
  have e6 : bs.getD 4 0 = p.kind := by
    have q := congrArg (fun l => l[0]?) e5
    simp only [List.getElem?_drop] at q
    rw [List.getD_eq_getElem?_getD, q]; rfl
  have e7 : bs.getD 5 0 = UInt8.ofNat p.cells.length := by
    have q := congrArg (fun l => l[1]?) e5
    simp only [List.getElem?_drop] at q
    rw [List.getD_eq_getElem?_getD, q]; rfl
  have e8 : bs.drop 6 = fix p.cells.flatten.length 2 ++ (room p.cells ++ bs.drop 252) := by
    have q := congrArg (List.drop 2) e5
    rw [List.drop_drop] at q
    exact q
  have e9 : (bs.drop 6).take 2 = fix p.cells.flatten.length 2 := by rw [e8, List.take_left' (len_fix _ _)]
  have e10 : (bs.drop 8).take 244 = room p.cells := by
    have q := congrArg (List.drop 2) e8
    rw [List.drop_drop, List.drop_left' (len_fix _ _)] at q
    rw [q, List.take_left' (len_room hp.room)]
  rw [readP, if_neg (by omega), e10, e7, e9, unfix_fix, e4, unfix_fix, e6, ofNat_toNat _ (by omega), Nat.mod_eq_of_lt (by omega : p.cells.flatten.length < 256 ^ 2), Nat.mod_eq_of_lt (by have := hp.no; omega : p.no < 256 ^ 4), cutC_room hp.room]
  simp only
  rw [if_neg (fun c => by have h1 := hp.no; rcases c with c | c; omega; exact hp.kind c)]
theorem read_pbytes {p : Pg} (hp : p.Ok) : readP (pbytes p) = some p := read_of hp (len_pbytes hp.room) (take_pbytes hp.room)
/-- The page of these cells, or none, and why. -/
def fillP (no : Int) (kind : UInt8) (l : List (List UInt8)) : List UInt8 := if no < 0 ∨ 2147483647 < no ∨ kind = 0 then [] else if 244 < taken l then [] else pbytes ⟨no.toNat, kind, l⟩
def fillE (no : Int) (kind : UInt8) (l : List (List UInt8)) : Nat := if no < 0 ∨ 2147483647 < no ∨ kind = 0 then 2 else if 244 < taken l then 32 else 0
def kindP (bs : List UInt8) : UInt8 := match readP bs with
  | none => 0
  | some p => p.kind
def cellsP (bs : List UInt8) : List (List UInt8) := match readP bs with
  | none => []
  | some p => p.cells
end Go.Proofs.Ytplppnngmlljnaa.M

/- Pages by definition: a cell put in, taken out, put in the place of another one; pages made of cells. -/
namespace Go.Proofs.Ytplppnngmlljnaa.M

set_option maxRecDepth 100000 in
theorem kind_put {p : Pg} (hp : p.Ok) : kindP (pbytes p) = p.kind := by rw [kindP, read_pbytes hp]
set_option maxRecDepth 100000 in
theorem cells_put {p : Pg} (hp : p.Ok) : cellsP (pbytes p) = p.cells := by rw [cellsP, read_pbytes hp]
set_option maxRecDepth 100000 in
theorem fill_ok {p : Pg} (hp : p.Ok) : fillP p.no p.kind p.cells = pbytes p ∧ fillE p.no p.kind p.cells = 0 := by
  have h1 := hp.no
  have h2 := hp.room
  have hn : ¬ ((p.no : Int) < 0 ∨ 2147483647 < (p.no : Int) ∨ p.kind = 0) := fun c => by
    rcases c with c | c | c
    · omega
    · omega
    · exact hp.kind c
  rw [fillP, fillE, if_neg hn, if_neg hn, if_neg (by omega), if_neg (by omega), Int.toNat_natCast]
  exact ⟨rfl, rfl⟩
/-- A cell put in. -/
def put1 (cs : List (List UInt8)) (i : Nat) (b : List UInt8) : List (List UInt8) := cs.take i ++ [b] ++ cs.drop i
set_option maxRecDepth 100000 in
theorem put1_taken (cs : List (List UInt8)) (i : Nat) (b : List UInt8) : taken (put1 cs i b) = taken cs + (2 + b.length) := by
  rw [put1, taken_app, taken_app, taken_one, ← taken_take cs i]; omega
/-- The page with a cell more. -/
def Pg.put (p : Pg) (i : Nat) (b : List UInt8) : Pg := ⟨p.no, p.kind, put1 p.cells i b⟩
theorem Pg.Ok.put {p : Pg} (h : p.Ok) (i : Nat) {b : List UInt8} (hb : taken p.cells + (2 + b.length) ≤ 244) : (p.put i b).Ok := ⟨h.no, h.kind, by rw [Pg.put, put1_taken]; exact hb⟩
def made (cs : List (List UInt8)) : Pg := ⟨9, 3, cs⟩
end Go.Proofs.Ytplppnngmlljnaa.M
