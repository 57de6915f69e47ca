/- Numbers, texts and floats as bytes, and back: by definition. -/
import Ieee.Arith
namespace Go.Proofs.YtjlennpoaefllaaGreatDoor.M

/-- A number's groups of seven bits, as many as k and one more at most. -/
def encF : Nat → Nat → List UInt8
  | 0, n => [UInt8.ofNat n]
  | k + 1, n => if n < 128 then [UInt8.ofNat n] else UInt8.ofNat (n % 128 + 128) :: encF k (n / 128)
/-- A number's groups of seven bits. -/
def enc (n : Nat) : List UInt8 := encF n n
/-- m, and behind i groups what is read. -/
def plus (m i : Nat) : Except Nat (Nat × List UInt8) → Except Nat (Nat × List UInt8)
  | .error e => .error e
  | .ok (n, r) => .ok (m + 2 ^ (7 * i) * n, r)
theorem ofNat_toNat (n : Nat) (h : n < 256) : (UInt8.ofNat n).toNat = n := by simp; omega
/-- A number's lowest bytes, the highest first. -/
def fix (n : Nat) : Nat → List UInt8
  | 0 => []
  | k + 1 => fix (n / 256) k ++ [UInt8.ofNat (n % 256)]
def unfix (l : List UInt8) : Nat := l.foldl (fun a c => a * 256 + c.toNat) 0
theorem len_fix (k : Nat) : ∀ n, (fix n k).length = k := by
  induction k with
  | zero => intro n; rfl
  | succ k ih => intro n; rw [fix, List.length_append, ih]; rfl
theorem unfix_snoc (l : List UInt8) (c : UInt8) : unfix (l ++ [c]) = unfix l * 256 + c.toNat := by simp [unfix]
theorem unfix_fix (k : Nat) : ∀ n, unfix (fix n k) = n % 256 ^ k := by
  induction k with
  | zero => intro n; rw [fix]; simp [unfix, Nat.mod_one]
  | succ k ih =>
    intro n
    rw [fix, unfix_snoc, ih, ofNat_toNat _ (by omega), Nat.pow_succ, Nat.mul_comm (256 ^ k) 256, Nat.mod_mul]
    omega
theorem fix_unfix (k : Nat) : ∀ l : List UInt8, l.length = k → fix (unfix l) k = l ∧ unfix l < 256 ^ k := by
  induction k with
  | zero => intro l hl; obtain rfl := List.eq_nil_of_length_eq_zero hl; exact ⟨rfl, by simp [unfix]⟩
  | succ k ih =>
    intro l hl
    have hne : l ≠ [] := by intro e; rw [e] at hl; cases hl
    obtain ⟨h1, h2⟩ := ih l.dropLast (by rw [List.length_dropLast]; omega)
    have hc := (l.getLast hne).toNat_lt
    rw [← List.dropLast_concat_getLast hne, unfix_snoc]
    refine ⟨?_, ?_⟩
    · rw [fix, show (unfix l.dropLast * 256 + (l.getLast hne).toNat) / 256 = unfix l.dropLast by omega, show (unfix l.dropLast * 256 + (l.getLast hne).toNat) % 256 = (l.getLast hne).toNat by omega, h1]
      simp
    · rw [Nat.pow_succ]; omega

def zero (b : Nat) : Bool := Ieee.double.order b 0 == some .eq
end Go.Proofs.YtjlennpoaefllaaGreatDoor.M
