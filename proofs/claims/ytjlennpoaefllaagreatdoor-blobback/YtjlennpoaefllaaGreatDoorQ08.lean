/- The sums' own reckoning, on 32 bits: a place down is linear, one to one, and commutes with every product; products by powers add up; a byte by halves. -/
namespace Go.Proofs.YtjlennpoaefllaaGreatDoor
namespace C

abbrev V := BitVec 32
/-- What x to the 32 leaves. -/
def P : V := 0xedb88320#32
/-- A place down. -/
def D (x : V) : V := (x >>> 1) ^^^ (if x.getLsbD 0 then P else 0#32)
/-- n places down. -/
def Dn : Nat → V → V
  | 0, x => x
  | n + 1, x => Dn n (D x)
/-- The power 0. -/
def one : V := 0x80000000#32

theorem D_xor (x y : V) : D (x ^^^ y) = D x ^^^ D y := by
  have e : (x ^^^ y) >>> 1 = (x >>> 1) ^^^ (y >>> 1) := by
    apply BitVec.eq_of_getLsbD_eq; intro i hi; simp
  unfold D
  rw [e, BitVec.getLsbD_xor]
  cases x.getLsbD 0 <;> cases y.getLsbD 0 <;> simp
  · rw [BitVec.xor_assoc]
  · rw [BitVec.xor_assoc, BitVec.xor_assoc, BitVec.xor_comm P]
  · rw [show x >>> 1 ^^^ P ^^^ (y >>> 1 ^^^ P) = (x >>> 1 ^^^ y >>> 1) ^^^ (P ^^^ P) by ac_rfl]; simp
theorem D_zero : D 0#32 = 0#32 := by decide

theorem Dn_xor (n : Nat) : ∀ x y : V, Dn n (x ^^^ y) = Dn n x ^^^ Dn n y := by
  induction n with
  | zero => intro x y; rfl
  | succ n ih => intro x y; simp only [Dn]; rw [D_xor, ih]
theorem Dn_add (n m : Nat) : ∀ x : V, Dn m (Dn n x) = Dn (n + m) x := by
  induction n with
  | zero => intro x; simp [Dn]
  | succ n ih => intro x; rw [show n + 1 + m = (n + m) + 1 by omega]; simp only [Dn]; exact ih _
theorem D_inj0 {x : V} (h : D x = 0#32) : x = 0#32 := by
  have h31 : (D x).getLsbD 31 = false := by rw [h]; simp
  have hl : x.getLsbD 0 = false := by
    unfold D at h31
    cases hb : x.getLsbD 0
    · rfl
    · rw [hb] at h31; simp [P] at h31
  unfold D at h
  rw [hl] at h
  simp at h
  apply BitVec.eq_of_getLsbD_eq
  intro i hi
  cases i with
  | zero => rw [hl]; rfl
  | succ i =>
    have := congrArg (fun v => v.getLsbD i) h
    simp at this
    rw [Nat.add_comm] at this
    simpa using this
theorem Dn_inj0 (n : Nat) : ∀ {x : V}, Dn n x = 0#32 → x = 0#32 := by
  induction n with
  | zero => intro x h; exact h
  | succ n ih => intro x h; exact D_inj0 (ih h)

/-- A product, the first n places of a. -/
def act : Nat → V → V → V
  | 0, _, _ => 0#32
  | n + 1, a, b => (if a.msb then b else 0#32) ^^^ act n (a <<< 1) (D b)

theorem act_xor (n : Nat) : ∀ a b c, act n a (b ^^^ c) = act n a b ^^^ act n a c := by
  induction n with
  | zero => intro a b c; simp [act]
  | succ n ih =>
    intro a b c
    simp only [act]
    rw [D_xor, ih]
    cases a.msb <;> simp
    ac_rfl
theorem act_right_zero (n : Nat) : ∀ a, act n a 0#32 = 0#32 := by
  induction n with
  | zero => intro a; rfl
  | succ n ih => intro a; simp [act, D_zero, ih]
theorem act_D (n : Nat) : ∀ a b, act n a (D b) = D (act n a b) := by
  induction n with
  | zero => intro a b; simp [act, D_zero]
  | succ n ih =>
    intro a b
    simp only [act]
    rw [D_xor, ih]
    cases a.msb <;> simp [D_zero]
theorem act_comm (n : Nat) : ∀ a m b c, act n a (act m b c) = act m b (act n a c) := by
  induction n with
  | zero => intro a m b c; simp [act, act_right_zero]
  | succ n ih =>
    intro a m b c
    simp only [act]
    rw [← act_D, ih, act_xor]
    cases a.msb <;> simp [act_right_zero]

theorem D_two (n : Nat) (h : n < 31) : D (BitVec.twoPow 32 (n + 1)) = BitVec.twoPow 32 n := by
  have : ∀ k : Fin 31, D (BitVec.twoPow 32 (k.val + 1)) = BitVec.twoPow 32 k.val := by decide
  exact this ⟨n, h⟩
theorem act_two (n : Nat) : ∀ a, n < 32 → act (n + 1) a (BitVec.twoPow 32 n) = a >>> (31 - n) := by
  induction n with
  | zero =>
    intro a _
    simp only [act]
    apply BitVec.eq_of_getLsbD_eq
    intro i hi
    rw [BitVec.msb_eq_getLsbD_last]
    cases hb : a.getLsbD 31
    · simp
      cases i with
      | zero => simpa using hb.symm
      | succ i => exact BitVec.getLsbD_of_ge a (31 + (i + 1)) (by omega)
    · simp
      cases i with
      | zero => simpa using hb.symm
      | succ i => rw [BitVec.getLsbD_of_ge _ _ (by omega : 32 ≤ 31 + (i + 1))]; simp
  | succ n ih =>
    intro a hn
    have e : act (n + 1 + 1) a (BitVec.twoPow 32 (n + 1)) = (if a.msb then BitVec.twoPow 32 (n + 1) else 0#32) ^^^ act (n + 1) (a <<< 1) (D (BitVec.twoPow 32 (n + 1))) := rfl
    rw [e, D_two n (by omega), ih _ (by omega)]
    apply BitVec.eq_of_getLsbD_eq
    intro i hi
    rw [BitVec.msb_eq_getLsbD_last]
    simp only [BitVec.getLsbD_xor, BitVec.getLsbD_ushiftRight, BitVec.getLsbD_shiftLeft]
    by_cases h1 : i < n + 1
    · have e0 : (if a.getLsbD (32 - 1) then BitVec.twoPow 32 (n + 1) else 0#32).getLsbD i = false := by
        split
        · rw [BitVec.getLsbD_twoPow]; simp; omega
        · simp
      rw [e0, show 31 - n + i - 1 = 31 - (n + 1) + i by omega, decide_eq_true (show 31 - n + i < 32 by omega), decide_eq_false (show ¬ 31 - n + i < 1 by omega)]
      simp
    · by_cases h2 : i = n + 1
      · subst h2
        rw [show 31 - (n + 1) + (n + 1) = 31 by omega, decide_eq_false (show ¬ 31 - n + (n + 1) < 32 by omega)]
        have : (32 - 1) = 31 := rfl
        rw [this]
        cases a.getLsbD 31
        · simp
        · simp [BitVec.getLsbD_twoPow]; omega
      · have e0 : (if a.getLsbD (32 - 1) then BitVec.twoPow 32 (n + 1) else 0#32).getLsbD i = false := by
          split
          · rw [BitVec.getLsbD_twoPow]; simp; omega
          · simp
        rw [e0, decide_eq_false (show ¬ 31 - n + i < 32 by omega), BitVec.getLsbD_of_ge a _ (by omega : 32 ≤ 31 - (n + 1) + i)]
        simp

/-- The product. -/
def mul (a b : V) : V := act 32 a b
theorem mul_one (a : V) : mul a one = a := by
  have := act_two 31 a (by decide)
  rw [show (BitVec.twoPow 32 31) = one by decide] at this
  unfold mul
  rw [this]; simp
theorem mul_comm (a b : V) : mul a b = mul b a := by
  have h := act_comm 32 a 32 b one
  have e1 : act 32 b one = b := mul_one b
  have e2 : act 32 a one = a := mul_one a
  rw [e1, e2] at h
  exact h
/-- The table of halves. -/
def tab : List Nat := [0, 498536548, 997073096, 651767980, 1994146192, 1802195444, 1303535960, 1342533948, 3988292384, 4027552580, 3604390888, 3412177804, 2607071920, 2262029012, 2685067896, 3183342108]
theorem D_even (x : V) (h : x.getLsbD 0 = false) : D x = x >>> 1 := by unfold D; rw [h]; simp
theorem D4_even (x : V) (h0 : x.getLsbD 0 = false) (h1 : x.getLsbD 1 = false) (h2 : x.getLsbD 2 = false) (h3 : x.getLsbD 3 = false) : Dn 4 x = x >>> 4 := by
  simp only [Dn]
  rw [D_even x h0, D_even (x >>> 1) (by simpa using h1), D_even (x >>> 1 >>> 1) (by simpa using h2), D_even (x >>> 1 >>> 1 >>> 1) (by simpa using h3)]
  apply BitVec.eq_of_getLsbD_eq; intro i hi; simp
/-- A half down, looked up. -/
theorem half (x : V) : (x >>> 4) ^^^ BitVec.ofNat 32 (tab.getD (x &&& 15#32).toNat 0) = Dn 4 x := by
  have hx : x = (x &&& 0xfffffff0#32) ^^^ (x &&& 15#32) := by
    apply BitVec.eq_of_getLsbD_eq
    intro i hi
    simp only [BitVec.getLsbD_xor, BitVec.getLsbD_and]
    have : ∀ i : Fin 32, (0xfffffff0#32).getLsbD i.val = !(15#32).getLsbD i.val := by decide
    rw [this ⟨i, hi⟩]
    cases x.getLsbD i <;> cases (15#32).getLsbD i <;> rfl
  have hlo : ∀ y : V, y.toNat < 16 → BitVec.ofNat 32 (tab.getD y.toNat 0) = Dn 4 y := by
    intro y hy
    have : ∀ k : Fin 16, BitVec.ofNat 32 (tab.getD k.val 0) = Dn 4 (BitVec.ofNat 32 k.val) := by decide
    have h := this ⟨y.toNat, hy⟩
    simp only [BitVec.ofNat_toNat, BitVec.setWidth_eq] at h
    exact h
  have hb : (x &&& 15#32).toNat < 16 := by
    rw [BitVec.toNat_and]
    exact Nat.lt_of_le_of_lt Nat.and_le_right (by decide)
  rw [hlo _ hb]
  conv => rhs; rw [hx]
  rw [Dn_xor]
  congr 1
  rw [D4_even _ (by simp) (by simp) (by simp) (by simp)]
  apply BitVec.eq_of_getLsbD_eq
  intro i hi
  simp only [BitVec.getLsbD_ushiftRight, BitVec.getLsbD_and]
  by_cases h : i < 28
  · have : ∀ i : Fin 28, (0xfffffff0#32).getLsbD (4 + i.val) = true := by decide
    rw [this ⟨i, h⟩]; simp
  · rw [BitVec.getLsbD_of_ge x _ (by omega)]; simp

/-- A byte's place among 32 bits. -/
def z8 (c : UInt8) : V := BitVec.ofNat 32 c.toNat
/-- What the bits are behind bytes. -/
def raw (h : V) (bs : List UInt8) : V := bs.foldl (fun h c => Dn 8 (h ^^^ z8 c)) h
def sum (bs : List UInt8) : V := ~~~ raw (~~~ 0#32) bs
theorem raw_nil (h : V) : raw h [] = h := rfl
theorem raw_snoc (h : V) (bs : List UInt8) (c : UInt8) : raw h (bs ++ [c]) = Dn 8 (raw h bs ^^^ z8 c) := by simp [raw]
theorem raw_app (h : V) (as bs : List UInt8) : raw h (as ++ bs) = raw (raw h as) bs := by simp [raw]
theorem raw_xor (bs : List UInt8) : ∀ h g : V, raw (h ^^^ g) bs = raw h bs ^^^ Dn (8 * bs.length) g := by
  induction bs with
  | nil => intro h g; simp [raw, Dn]
  | cons c bs ih =>
    intro h g
    show raw (Dn 8 (h ^^^ g ^^^ z8 c)) bs = raw (Dn 8 (h ^^^ z8 c)) bs ^^^ _
    rw [show h ^^^ g ^^^ z8 c = (h ^^^ z8 c) ^^^ g by ac_rfl, Dn_xor, ih, Dn_add, List.length_cons, show 8 + 8 * bs.length = 8 * (bs.length + 1) by omega]
theorem not_xor (a : V) : ~~~ a = a ^^^ ~~~ 0#32 := by
  rw [show ~~~ 0#32 = BitVec.allOnes 32 by decide, BitVec.xor_allOnes]
end C
end Go.Proofs.YtjlennpoaefllaaGreatDoor
