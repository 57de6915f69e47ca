/- Floats in one order: a float's place among all, every NaN above, the two noughts one. -/
import Derived.Test.YtkkmbpcmkhikkaaMath
namespace Go.Proofs.Ytkkmbpcmkhikkaa.M

/-- A float's bits but for the sign, and its sign. -/
def rung (b : Nat) : Nat := b % 9223372036854775808
def neg (b : Nat) : Bool := b / 9223372036854775808 % 2 == 1
def sg (s : Bool) (n : Nat) : Int := if s then -(n : Int) else (n : Int)
/-- How many of the least number a rung stands for. -/
def mag (r : Nat) : Nat := if r < 4503599627370496 then r else (4503599627370496 + r % 4503599627370496) * 2 ^ (r / 4503599627370496 - 1)
theorem mag_lt {r s : Nat} (h : r < s) : mag r < mag s := by
  unfold mag
  by_cases h1 : r < 4503599627370496
  · rw [if_pos h1]
    by_cases h2 : s < 4503599627370496
    · rw [if_pos h2]; exact h
    · rw [if_neg h2]
      have h3 : 1 ≤ 2 ^ (s / 4503599627370496 - 1) := Nat.one_le_two_pow
      have h4 := Nat.mul_le_mul_left (4503599627370496 + s % 4503599627370496) h3
      omega
  · rw [if_neg h1, if_neg (by omega)]
    have q1 : 1 ≤ r / 4503599627370496 := by omega
    have e1 := Nat.div_add_mod r 4503599627370496
    have e2 := Nat.div_add_mod s 4503599627370496
    have l1 := Nat.mod_lt r (show 4503599627370496 > 0 by omega)
    have l2 := Nat.mod_lt s (show 4503599627370496 > 0 by omega)
    generalize r / 4503599627370496 = q at *
    generalize s / 4503599627370496 = q' at *
    generalize r % 4503599627370496 = f at *
    generalize s % 4503599627370496 = f' at *
    have hq : q ≤ q' := by omega
    rcases Nat.lt_or_eq_of_le hq with hq | rfl
    · have p1 : (4503599627370496 + f) * 2 ^ (q - 1) < 2 * 4503599627370496 * 2 ^ (q - 1) := Nat.mul_lt_mul_of_pos_right (by omega) (Nat.two_pow_pos _)
      have p2 : 2 * 4503599627370496 * 2 ^ (q - 1) = 4503599627370496 * 2 ^ q := by
        rw [show q = (q - 1) + 1 by omega, Nat.pow_succ, Nat.add_sub_cancel, Nat.mul_comm 2 4503599627370496, Nat.mul_assoc, Nat.mul_comm 2]
      have p3 : 4503599627370496 * 2 ^ q ≤ 4503599627370496 * 2 ^ (q' - 1) := Nat.mul_le_mul_left _ (Nat.pow_le_pow_right (by decide) (by omega))
      have p4 : 4503599627370496 * 2 ^ (q' - 1) ≤ (4503599627370496 + f') * 2 ^ (q' - 1) := Nat.mul_le_mul_right _ (by omega)
      omega
    · exact Nat.mul_lt_mul_of_pos_right (by omega) (Nat.two_pow_pos _)
theorem mag_iff (r s : Nat) : mag r < mag s ↔ r < s := by
  constructor
  · intro h
    rcases Nat.lt_or_ge r s with h1 | h1
    · exact h1
    · rcases Nat.lt_or_eq_of_le h1 with h2 | rfl
      · have := mag_lt h2; omega
      · omega
  · exact mag_lt
theorem mag_zero : mag 0 = 0 := rfl

theorem read_eq (b : Nat) : Ieee.double.read b = if rung b < 4503599627370496 then .number (neg b) (rung b) (-1074)
    else if rung b < 9218868437227405312 then .number (neg b) (4503599627370496 + rung b % 4503599627370496) (-1074 + ((rung b / 4503599627370496 - 1 : Nat) : Int))
    else if rung b = 9218868437227405312 then .infinity (neg b) else .nan (neg b) (rung b - 9218868437227405312) := by
  have hs : Ieee.double.signWeight = 9223372036854775808 := by decide
  have hb : Ieee.double.binade = 4503599627370496 := by decide
  have hi : Ieee.double.infRung = 9218868437227405312 := by decide
  have hl : Ieee.double.leastPlace = -1074 := by decide
  unfold Ieee.Format.read
  rw [hs, hb, hi, hl]
  rfl
theorem read_number {b : Nat} (h : rung b < 9218868437227405312) : ∃ m k : Nat, Ieee.double.read b = .number (neg b) m (-1074 + (k : Int)) ∧ m * 2 ^ k = mag (rung b) := by
  rw [read_eq]
  by_cases h1 : rung b < 4503599627370496
  · rw [if_pos h1]
    exact ⟨rung b, 0, rfl, by rw [mag, if_pos h1]; simp⟩
  · rw [if_neg h1, if_pos h]
    exact ⟨_, _, rfl, by rw [mag, if_neg h1]⟩
theorem read_inf {b : Nat} (h : rung b = 9218868437227405312) : Ieee.double.read b = .infinity (neg b) := by
  rw [read_eq, if_neg (by omega), if_neg (by omega), if_pos h]
theorem read_nan {b : Nat} (h : 9218868437227405312 < rung b) : Ieee.double.read b = .nan (neg b) (rung b - 9218868437227405312) := by
  rw [read_eq, if_neg (by omega), if_neg (by omega), if_neg (by omega)]

theorem compare_congr {x y x' y' : Int} (h1 : x < y ↔ x' < y') (h2 : x = y ↔ x' = y') : compare x y = compare x' y' := by
  show compareOfLessAndEq x y = compareOfLessAndEq x' y'
  unfold compareOfLessAndEq
  simp only [h1, h2]
theorem sg_congr {s t : Bool} {a b a' b' : Nat} (h1 : a < b ↔ a' < b') (h2 : b < a ↔ b' < a') (h3 : a = 0 ↔ a' = 0) (h4 : b = 0 ↔ b' = 0) : compare (sg s a) (sg t b) = compare (sg s a') (sg t b') := by
  apply compare_congr
  · cases s <;> cases t <;> simp [sg] <;> omega
  · cases s <;> cases t <;> simp [sg] <;> omega
theorem signed_sg (s : Bool) (m k j : Nat) (h : j ≤ k) : Ieee.signed s m (k - j) * 2 ^ j = sg s (m * 2 ^ k) := by
  have e : ((m <<< (k - j) : Nat) : Int) * 2 ^ j = ((m * 2 ^ k : Nat) : Int) := by
    rw [Nat.shiftLeft_eq, show k = (k - j) + j by omega, Nat.add_sub_cancel, Nat.pow_add, ← Nat.mul_assoc]
    simp
  unfold Ieee.signed sg
  cases s
  · simpa using e
  · simp only [if_true]
    rw [Int.neg_mul, e]

/-- A number's place. -/
def kz (b : Nat) : Int := sg (neg b) (rung b)
theorem order_fin {a b : Nat} (ha : rung a < 9218868437227405312) (hb : rung b < 9218868437227405312) : Ieee.double.order a b = some (compare (kz a) (kz b)) := by
  obtain ⟨m, k, e1, g1⟩ := read_number ha
  obtain ⟨n, j, e2, g2⟩ := read_number hb
  unfold Ieee.Format.order
  rw [e1, e2]
  simp only [Ieee.Datum.order, Option.some.injEq]
  have h1 : (-1074 + (k : Int) - min (-1074 + (k : Int)) (-1074 + (j : Int))).toNat = k - min k j := by omega
  have h2 : (-1074 + (j : Int) - min (-1074 + (k : Int)) (-1074 + (j : Int))).toNat = j - min k j := by omega
  rw [h1, h2]
  have s1 := signed_sg (neg a) m k (min k j) (Nat.min_le_left _ _)
  have s2 := signed_sg (neg b) n j (min k j) (Nat.min_le_right _ _)
  have hp : (0 : Int) < 2 ^ (min k j) := by
    have := Nat.two_pow_pos (min k j)
    have e : ((2 ^ (min k j) : Nat) : Int) = (2 : Int) ^ (min k j) := by simp
    omega
  rw [g1] at s1
  rw [g2] at s2
  generalize Ieee.signed (neg a) m (k - min k j) = x at *
  generalize Ieee.signed (neg b) n (j - min k j) = y at *
  have step : compare x y = compare (x * 2 ^ (min k j)) (y * 2 ^ (min k j)) := by
    apply compare_congr
    · exact (Int.mul_lt_mul_right hp).symm
    · constructor
      · intro h; rw [h]
      · intro h; exact Int.eq_of_mul_eq_mul_right (Int.ne_of_gt hp) h
  rw [step, s1, s2]
  unfold kz
  refine sg_congr (mag_iff _ _) (mag_iff _ _) ?_ ?_
  · constructor
    · intro h
      rcases Nat.eq_zero_or_pos (rung a) with h0 | h0
      · exact h0
      · have := mag_lt h0; rw [mag_zero] at this; omega
    · intro h; rw [h]; rfl
  · constructor
    · intro h
      rcases Nat.eq_zero_or_pos (rung b) with h0 | h0
      · exact h0
      · have := mag_lt h0; rw [mag_zero] at this; omega
    · intro h; rw [h]; rfl
theorem compare_lt {x y : Int} (h : x < y) : compare x y = .lt := by
  show compareOfLessAndEq x y = .lt
  unfold compareOfLessAndEq
  rw [if_pos h]
theorem compare_gt {x y : Int} (h : y < x) : compare x y = .gt := by
  show compareOfLessAndEq x y = .gt
  unfold compareOfLessAndEq
  rw [if_neg (by omega), if_neg (by omega)]
theorem sg_bound (s : Bool) (n : Nat) : -(n : Int) ≤ sg s n ∧ sg s n ≤ n := by cases s <;> simp [sg] <;> omega
theorem order_num {a b : Nat} (ha : rung a ≤ 9218868437227405312) (hb : rung b ≤ 9218868437227405312) : Ieee.double.order a b = some (compare (kz a) (kz b)) := by
  rcases Nat.lt_or_eq_of_le ha with ha | ha
  · rcases Nat.lt_or_eq_of_le hb with hb | hb
    · exact order_fin ha hb
    · obtain ⟨m, k, e1, g1⟩ := read_number ha
      unfold Ieee.Format.order
      rw [e1, read_inf hb]
      simp only [Ieee.Datum.order, Option.some.injEq]
      unfold kz
      rw [hb]
      have hs := sg_bound (neg a) (rung a)
      cases neg b
      · rw [compare_lt (by simp [sg]; omega)]; rfl
      · rw [compare_gt (by simp [sg]; omega)]; rfl
  · rcases Nat.lt_or_eq_of_le hb with hb | hb
    · obtain ⟨m, k, e1, g1⟩ := read_number hb
      unfold Ieee.Format.order
      rw [e1, read_inf ha]
      simp only [Ieee.Datum.order, Option.some.injEq]
      unfold kz
      rw [ha]
      have hs := sg_bound (neg b) (rung b)
      cases neg a
      · rw [compare_gt (by simp [sg]; omega)]; rfl
      · rw [compare_lt (by simp [sg]; omega)]; rfl
    · unfold Ieee.Format.order
      rw [read_inf ha, read_inf hb]
      simp only [Ieee.Datum.order, Option.some.injEq]
      unfold kz
      rw [ha, hb]
      cases neg a <;> cases neg b <;> decide
theorem order_nan {a b : Nat} (h : 9218868437227405312 < rung a ∨ 9218868437227405312 < rung b) : Ieee.double.order a b = none := by
  unfold Ieee.Format.order
  rcases h with h | h
  · rw [read_nan h]; rfl
  · rw [read_nan h]; cases Ieee.double.read a <;> rfl
theorem compare_self (x : Int) : compare x x = .eq := by
  show compareOfLessAndEq x x = .eq
  unfold compareOfLessAndEq
  simp
theorem nan_iff (b : Nat) : nan b = decide (9218868437227405312 < rung b) := by
  unfold nan
  by_cases h : 9218868437227405312 < rung b
  · rw [order_nan (.inl h)]; simp [h]
  · rw [order_num (by omega) (by omega), compare_self]; simp [h]
theorem zero_iff (b : Nat) : zero b = decide (rung b = 0) := by
  unfold zero
  have h0 : rung 0 = 0 := rfl
  by_cases h : 9218868437227405312 < rung b
  · rw [order_nan (.inl h)]
    have : rung b ≠ 0 := by omega
    simp [this]
  · rw [order_num (by omega) (by rw [h0]; omega)]
    have hk : kz 0 = 0 := rfl
    rw [hk]
    show (some (compareOfLessAndEq (kz b) 0) == some Ordering.eq) = _
    unfold compareOfLessAndEq kz sg
    by_cases hr : rung b = 0
    · rw [hr]; cases neg b <;> simp
    · have : ¬ ((rung b : Int) = 0) := by omega
      cases neg b
      · rw [if_neg (by simp), if_neg (by simpa using this)]; simp [hr]
      · rw [if_pos (by simp; omega)]; simp [hr]

/-- -1, 0 or 1. -/
def cmp3 (x y : Int) : Int := if x < y then -1 else if y < x then 1 else 0
/-- A float's place among all floats. -/
def key (b : Nat) : Int := if 9218868437227405312 < rung b then 18446744073709551616 else kz b
theorem rung_lt (b : Nat) : rung b < 9223372036854775808 := Nat.mod_lt _ (by decide)
theorem kz_lt (b : Nat) : kz b < 9223372036854775808 := by
  have := rung_lt b
  unfold kz sg; split <;> omega
/-- How two floats stand to one another. -/
def fcmp (a b : Nat) : Int := cmp3 (key a) (key b)
theorem fcmp_nan1 {a b : Nat} (ha : nan a = true) (hb : nan b = false) : fcmp a b = 1 := by
  rw [nan_iff] at ha hb
  have h1 := of_decide_eq_true ha
  have h2 := of_decide_eq_false hb
  have := kz_lt b
  rw [fcmp, key, key, if_pos h1, if_neg h2, cmp3, if_neg (by omega), if_pos (by omega)]
theorem fcmp_nan2 {a b : Nat} (ha : nan a = false) (hb : nan b = true) : fcmp a b = -1 := by
  rw [nan_iff] at ha hb
  have h1 := of_decide_eq_true hb
  have h2 := of_decide_eq_false ha
  have := kz_lt a
  rw [fcmp, key, key, if_pos h1, if_neg h2, cmp3, if_pos (by omega)]
theorem fcmp_nan3 {a b : Nat} (ha : nan a = true) (hb : nan b = true) : fcmp a b = 0 := by
  rw [nan_iff] at ha hb
  have h1 := of_decide_eq_true ha
  have h2 := of_decide_eq_true hb
  rw [fcmp, key, key, if_pos h1, if_pos h2, cmp3, if_neg (by omega), if_neg (by omega)]
theorem fcmp_num {a b : Nat} (ha : nan a = false) (hb : nan b = false) :
    fcmp a b = if Ieee.double.order a b == some .lt then -1 else if Ieee.double.order a b == some .gt then 1 else 0 := by
  rw [nan_iff] at ha hb
  have h1 := of_decide_eq_false ha
  have h2 := of_decide_eq_false hb
  rw [fcmp, key, key, if_neg h1, if_neg h2, order_num (by omega) (by omega), cmp3]
  show _ = if (some (compareOfLessAndEq (kz a) (kz b)) == some Ordering.lt) then -1 else if (some (compareOfLessAndEq (kz a) (kz b)) == some Ordering.gt) then 1 else 0
  unfold compareOfLessAndEq
  by_cases h3 : kz a < kz b
  · rw [if_pos h3, if_pos h3]; rfl
  · rw [if_neg h3, if_neg h3]
    by_cases h4 : kz a = kz b
    · rw [if_pos h4, if_neg (by omega)]; rfl
    · rw [if_neg h4, if_pos (by omega)]; rfl
theorem key_canon (b : Nat) : key (canon b) = key b := by
  unfold canon
  by_cases h : nan b = true
  · rw [if_pos h]
    rw [nan_iff] at h
    rw [key, key, if_pos (of_decide_eq_true h), if_pos (by decide)]
  · rw [if_neg h]
    by_cases h2 : zero b = true
    · rw [if_pos h2]
      rw [zero_iff] at h2
      have := of_decide_eq_true h2
      rw [key, key, if_neg (by decide), if_neg (by omega)]
      unfold kz sg
      rw [this]
      split <;> split <;> rfl
    · rw [if_neg h2]
theorem canon_key {a b : Nat} (ha : a < 18446744073709551616) (hb : b < 18446744073709551616) (h : key a = key b) : canon a = canon b := by
  have ka := kz_lt a
  have kb := kz_lt b
  unfold key at h
  unfold canon
  rw [nan_iff, nan_iff, zero_iff, zero_iff]
  by_cases h1 : 9218868437227405312 < rung a
  · rw [if_pos h1] at h
    by_cases h2 : 9218868437227405312 < rung b
    · simp [h1, h2]
    · rw [if_neg h2] at h; omega
  · rw [if_neg h1] at h
    by_cases h2 : 9218868437227405312 < rung b
    · rw [if_pos h2] at h; omega
    · rw [if_neg h2] at h
      simp only [h1, h2, decide_false, Bool.false_eq_true, if_false]
      unfold kz sg neg at h
      have ra : rung a = a % 9223372036854775808 := rfl
      have rb : rung b = b % 9223372036854775808 := rfl
      by_cases h3 : rung a = 0
      · have h4 : rung b = 0 := by
          rw [h3] at h
          split at h <;> split at h <;> omega
        simp [h3, h4]
      · have h4 : ¬ rung b = 0 := by
          intro e; rw [e] at h
          split at h <;> split at h <;> omega
        simp only [h3, h4, decide_false, Bool.false_eq_true, if_false]
        have da : a / 9223372036854775808 < 2 := by omega
        have db : b / 9223372036854775808 < 2 := by omega
        split at h <;> split at h <;> rename_i x y <;> simp only [beq_iff_eq] at x y <;> omega
end Go.Proofs.Ytkkmbpcmkhikkaa.M
