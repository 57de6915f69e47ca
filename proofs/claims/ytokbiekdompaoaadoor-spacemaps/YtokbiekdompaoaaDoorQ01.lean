/- Numbers, texts and floats as bytes, and back: by definition. -/
import Ieee.Arith
namespace Go.Proofs.YtokbiekdompaoaaDoor.M

/-- A number's groups of seven bits, as many as k and one more at most. -/
def encF : Nat → Nat → List UInt8
  | 0, n => [UInt8.ofNat n]
  | k + 1, n => if n < 128 then [UInt8.ofNat n] else UInt8.ofNat (n % 128 + 128) :: encF k (n / 128)
/-- A number's groups of seven bits. -/
def enc (n : Nat) : List UInt8 := encF n n
theorem encF_small {n : Nat} (h : n < 128) : ∀ k, encF k n = [UInt8.ofNat n]
  | 0 => rfl
  | k + 1 => by rw [encF, if_pos h]
theorem encF_eq : ∀ k m n, n ≤ k → n ≤ m → encF k n = encF m n
  | 0, m, n, h, _ => by rw [encF_small (by omega), encF_small (by omega)]
  | k + 1, 0, n, _, h => by rw [encF_small (by omega), encF_small (by omega)]
  | k + 1, m + 1, n, h1, h2 => by
    by_cases h : n < 128
    · rw [encF_small h, encF_small h]
    · rw [encF, encF, if_neg h, if_neg h, encF_eq k m (n / 128) (by omega) (by omega)]
theorem enc_small {n : Nat} (h : n < 128) : enc n = [UInt8.ofNat n] := encF_small h n
theorem enc_big {n : Nat} (h : ¬ n < 128) : enc n = UInt8.ofNat (n % 128 + 128) :: enc (n / 128) := by
  obtain ⟨k, rfl⟩ : ∃ k, n = k + 1 := ⟨n - 1, by omega⟩
  show encF (k + 1) (k + 1) = _ :: encF ((k + 1) / 128) ((k + 1) / 128)
  rw [encF, if_neg h, encF_eq k ((k + 1) / 128) _ (by omega) (Nat.le_refl _)]

/-- Bytes are read as a number, from its byte number i on: why not, or the number and what is left. -/
def scan : Nat → List UInt8 → Except Nat (Nat × List UInt8)
  | _, [] => .error 21
  | i, c :: l =>
    if (i = 9 ∧ 1 < c.toNat) ∨ (0 < i ∧ c.toNat = 0) then .error 22
    else if 128 ≤ c.toNat then
      match scan (i + 1) l with
      | .error e => .error e
      | .ok (n, r) => .ok (c.toNat % 128 + 128 * n, r)
    else .ok (c.toNat, l)
/-- m, and behind i groups what is read. -/
def plus (m i : Nat) : Except Nat (Nat × List UInt8) → Except Nat (Nat × List UInt8)
  | .error e => .error e
  | .ok (n, r) => .ok (m + 2 ^ (7 * i) * n, r)
theorem plus_zero (x : Except Nat (Nat × List UInt8)) : plus 0 0 x = x := by
  cases x with
  | error e => rfl
  | ok v => simp [plus]
theorem plus_nil (m i : Nat) : plus m i (scan i []) = .error 21 := rfl
theorem plus_bad (m i : Nat) (c : UInt8) (l : List UInt8) (h : (i = 9 ∧ 1 < c.toNat) ∨ (0 < i ∧ c.toNat = 0)) : plus m i (scan i (c :: l)) = .error 22 := by
  rw [scan, if_pos h]; rfl
theorem plus_more (m i : Nat) (c : UInt8) (l : List UInt8) (h : ¬ ((i = 9 ∧ 1 < c.toNat) ∨ (0 < i ∧ c.toNat = 0))) (h2 : 128 ≤ c.toNat) :
    plus m i (scan i (c :: l)) = plus (m + c.toNat % 128 * 2 ^ (7 * i)) (i + 1) (scan (i + 1) l) := by
  rw [scan, if_neg h, if_pos h2]
  cases scan (i + 1) l with
  | error e => rfl
  | ok v =>
    simp only [plus]
    congr 2
    rw [Nat.mul_add, show 7 * (i + 1) = 7 * i + 7 by omega, Nat.pow_add, Nat.mul_comm (2 ^ (7 * i)) (c.toNat % 128), Nat.add_assoc, Nat.mul_assoc]
theorem plus_last (m i : Nat) (c : UInt8) (l : List UInt8) (h : ¬ ((i = 9 ∧ 1 < c.toNat) ∨ (0 < i ∧ c.toNat = 0))) (h2 : ¬ 128 ≤ c.toNat) :
    plus m i (scan i (c :: l)) = .ok (m + c.toNat % 128 * 2 ^ (7 * i), l) := by
  rw [scan, if_neg h, if_neg h2]
  simp only [plus]
  rw [Nat.mul_comm, Nat.mod_eq_of_lt (by omega)]

theorem ofNat_toNat (n : Nat) (h : n < 256) : (UInt8.ofNat n).toNat = n := by simp; omega
/-- What is put is read. -/
theorem scan_enc (tail : List UInt8) : ∀ (j i n : Nat), i + j = 9 → n < 2 ^ (1 + 7 * j) → (0 < i → 0 < n) → scan i (enc n ++ tail) = .ok (n, tail) := by
  intro j
  induction j with
  | zero =>
    intro i n hi hn h0
    have hn2 : n < 2 := by simpa using hn
    rw [enc_small (by omega), List.singleton_append, scan, ofNat_toNat _ (by omega), if_neg (by have := h0 (by omega); omega), if_neg (by omega)]
  | succ j ih =>
    intro i n hi hn h0
    by_cases h : n < 128
    · rw [enc_small h, List.singleton_append, scan, ofNat_toNat _ (by omega), if_neg (by omega), if_neg (by omega)]
    · rw [enc_big h, List.cons_append, scan, ofNat_toNat _ (by omega), if_neg (by omega), if_pos (by omega)]
      have hd : n / 128 < 2 ^ (1 + 7 * j) := by
        rw [Nat.div_lt_iff_lt_mul (by omega)]
        rw [show 1 + 7 * (j + 1) = 1 + 7 * j + 7 by omega, Nat.pow_add] at hn
        exact hn
      rw [ih (i + 1) (n / 128) (by omega) hd (fun _ => by omega)]
      simp only
      congr 2
      omega
theorem scan_put (n : Nat) (h : n < 18446744073709551616) (tail : List UInt8) : scan 0 (enc n ++ tail) = .ok (n, tail) := scan_enc tail 9 0 n rfl (by simpa using h) (by simp)
/-- What is read was put so. -/
theorem enc_scan : ∀ (l : List UInt8) (j i n : Nat) (r : List UInt8), i + j = 9 → scan i l = .ok (n, r) → l = enc n ++ r ∧ n < 2 ^ (1 + 7 * j) ∧ (0 < i → 0 < n) := by
  intro l
  induction l with
  | nil => intro j i n r _ h; cases h
  | cons c l ih =>
    intro j i n r hi h
    rw [scan] at h
    split at h
    · cases h
    · rename_i hb
      split at h
      · rename_i h128
        have h9 : i ≠ 9 := by intro e; exact hb (.inl ⟨e, by omega⟩)
        cases hs : scan (i + 1) l with
        | error e => rw [hs] at h; cases h
        | ok v =>
          obtain ⟨m, q⟩ := v
          rw [hs] at h
          simp only [Except.ok.injEq, Prod.mk.injEq] at h
          obtain ⟨rfl, rfl⟩ := h
          obtain ⟨k, rfl⟩ : ∃ k, j = k + 1 := ⟨j - 1, by omega⟩
          obtain ⟨h1, h2, h3⟩ := ih k (i + 1) m q (by omega) hs
          have hm := h3 (by omega)
          have hc := c.toNat_lt
          refine ⟨?_, ?_, fun _ => by omega⟩
          · rw [enc_big (by omega), List.cons_append, show (c.toNat % 128 + 128 * m) / 128 = m by omega, ← h1, show (c.toNat % 128 + 128 * m) % 128 + 128 = c.toNat by omega]
            simp
          · rw [show 1 + 7 * (k + 1) = 1 + 7 * k + 7 by omega, Nat.pow_add]
            have : m + 1 ≤ 2 ^ (1 + 7 * k) := h2
            have := Nat.mul_le_mul_right 128 this
            show _ < _ * 128
            omega
      · rename_i h128
        simp only [Except.ok.injEq, Prod.mk.injEq] at h
        obtain ⟨rfl, rfl⟩ := h
        refine ⟨?_, ?_, fun _ => by omega⟩
        · rw [enc_small (by omega)]; simp
        · by_cases h9 : i = 9
          · obtain rfl : j = 0 := by omega
            simp; omega
          · have : 2 ^ 8 ≤ 2 ^ (1 + 7 * j) := Nat.pow_le_pow_right (by decide) (by omega)
            omega
theorem scan_one {l r : List UInt8} {n : Nat} (h : scan 0 l = .ok (n, r)) : l = enc n ++ r ∧ n < 18446744073709551616 := by
  obtain ⟨h1, h2, _⟩ := enc_scan l 9 0 n r rfl h
  exact ⟨h1, by simpa using h2⟩
theorem scan_err : ∀ (l : List UInt8) (i e : Nat), scan i l = .error e → e = 21 ∨ e = 22 := by
  intro l
  induction l with
  | nil => intro i e h; cases h; simp
  | cons c l ih =>
    intro i e h
    rw [scan] at h
    split at h
    · cases h; simp
    · split at h
      · cases hs : scan (i + 1) l with
        | error e' => rw [hs] at h; cases h; exact ih _ _ hs
        | ok v => rw [hs] at h; cases h
      · cases h
theorem len_enc (n : Nat) : ∀ k, n < 128 ^ k → 0 < k → (enc n).length ≤ k := by
  induction n using Nat.strongRecOn with
  | _ n ih =>
    intro k hk h0
    by_cases h : n < 128
    · rw [enc_small h]; simp; omega
    · rw [enc_big h]
      obtain ⟨j, rfl⟩ : ∃ j, k = j + 1 := ⟨k - 1, by omega⟩
      have h1 : n / 128 < 128 ^ j := by rw [Nat.div_lt_iff_lt_mul (by omega)]; rw [Nat.pow_succ] at hk; exact hk
      have hj : 0 < j := by
        rcases Nat.eq_zero_or_pos j with rfl | hj
        · simp at h1; omega
        · exact hj
      have := ih (n / 128) (by omega) j h1 hj
      simp; omega
theorem len_enc10 {n : Nat} (h : n < 18446744073709551616) : (enc n).length ≤ 10 := len_enc n 10 (by omega) (by omega)

/-- A number with a sign as one without. -/
def zig (z : Int) : Nat := if z < 0 then (-2 * z - 1).toNat else (2 * z).toNat
def unzig (n : Nat) : Int := if n % 2 = 1 then -((n / 2 : Nat) : Int) - 1 else ((n / 2 : Nat) : Int)
theorem unzig_zig (z : Int) : unzig (zig z) = z := by unfold unzig zig; split <;> split <;> omega
theorem zig_unzig (n : Nat) : zig (unzig n) = n := by unfold unzig zig; split <;> split <;> omega
theorem zig_lt {z : Int} (h0 : -9223372036854775808 ≤ z) (h1 : z < 9223372036854775808) : zig z < 18446744073709551616 := by unfold zig; split <;> omega
theorem unzig_ge {n : Nat} (h : n < 18446744073709551616) : -9223372036854775808 ≤ unzig n ∧ unzig n < 9223372036854775808 := by unfold unzig; split <;> omega

/-- A number's lowest bytes, the highest first. -/
def fix (n : Nat) : Nat → List UInt8
  | 0 => []
  | k + 1 => fix (n / 256) k ++ [UInt8.ofNat (n % 256)]
def unfix (l : List UInt8) : Nat := l.foldl (fun a c => a * 256 + c.toNat) 0
theorem len_fix (k : Nat) : ∀ n, (fix n k).length = k := by
  induction k with
  | zero => intro n; rfl
  | succ k ih => intro n; rw [fix, List.length_append, ih]; rfl
theorem unfix_snoc (l : List UInt8) (c : UInt8) : unfix (l ++ [c]) = unfix l * 256 + c.toNat := by simp [unfix]
theorem unfix_fix (k : Nat) : ∀ n, unfix (fix n k) = n % 256 ^ k := by
  induction k with
  | zero => intro n; rw [fix]; simp [unfix, Nat.mod_one]
  | succ k ih =>
    intro n
    rw [fix, unfix_snoc, ih, ofNat_toNat _ (by omega), Nat.pow_succ, Nat.mul_comm (256 ^ k) 256, Nat.mod_mul]
    omega
theorem fix_unfix (k : Nat) : ∀ l : List UInt8, l.length = k → fix (unfix l) k = l ∧ unfix l < 256 ^ k := by
  induction k with
  | zero => intro l hl; obtain rfl := List.eq_nil_of_length_eq_zero hl; exact ⟨rfl, by simp [unfix]⟩
  | succ k ih =>
    intro l hl
    have hne : l ≠ [] := by intro e; rw [e] at hl; cases hl
    obtain ⟨h1, h2⟩ := ih l.dropLast (by rw [List.length_dropLast]; omega)
    have hc := (l.getLast hne).toNat_lt
    rw [← List.dropLast_concat_getLast hne, unfix_snoc]
    refine ⟨?_, ?_⟩
    · rw [fix, show (unfix l.dropLast * 256 + (l.getLast hne).toNat) / 256 = unfix l.dropLast by omega, show (unfix l.dropLast * 256 + (l.getLast hne).toNat) % 256 = (l.getLast hne).toNat by omega, h1]
      simp
    · rw [Nat.pow_succ]; omega

/-- A float that is not itself. -/
def nan (b : Nat) : Bool := Ieee.double.order b b != some .eq
def zero (b : Nat) : Bool := Ieee.double.order b 0 == some .eq
/-- A float's bits, as they are put. -/
def canon (b : Nat) : Nat := if nan b then 9221120237041090561 else if zero b then 0 else b
theorem canon_nan : canon 9221120237041090561 = 9221120237041090561 := by decide
theorem canon_zero : canon 0 = 0 := by decide
theorem canon_canon (b : Nat) : canon (canon b) = canon b := by
  by_cases h : nan b = true
  · have : canon b = 9221120237041090561 := by rw [canon, if_pos h]
    rw [this]; exact canon_nan
  · by_cases h2 : zero b = true
    · have : canon b = 0 := by rw [canon, if_neg h, if_pos h2]
      rw [this]; exact canon_zero
    · have : canon b = b := by rw [canon, if_neg h, if_neg h2]
      rw [this]; exact this
theorem canon_lt {b : Nat} (h : b < 18446744073709551616) : canon b < 18446744073709551616 := by unfold canon; split <;> (try split) <;> omega
theorem order_nought (b : Nat) (h : zero b = true) : Ieee.double.order 0 b = some .eq := by
  have h' : Ieee.double.order b 0 = some .eq := by simpa [zero] using h
  unfold Ieee.Format.order at h' ⊢
  have h0 : Ieee.double.read 0 = .number false 0 (-1074) := by decide
  rw [h0] at h' ⊢
  cases hr : Ieee.double.read b with
  | nan s f => rw [hr] at h'; cases h'
  | infinity s => rw [hr] at h'; cases s <;> cases h'
  | number s m i =>
    rw [hr] at h'
    simp only [Ieee.Datum.order, Option.some.injEq] at h' ⊢
    rw [Int.min_comm]
    exact Std.OrientedCmp.eq_symm h'
end Go.Proofs.YtokbiekdompaoaaDoor.M
