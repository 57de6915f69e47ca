/- Bits turned within 32 bits running: what that does to the bits behind bytes. -/
import Derived.Test.YtokbiekdompaoaaDoorQ13
namespace Go.Proofs.YtokbiekdompaoaaDoor

set_option maxRecDepth 100000 in
/-- k places up and k down. -/
theorem Dn_up (k : Nat) : ∀ x : C.V, k ≤ 32 → (∀ j, 32 - k ≤ j → x.getLsbD j = false) → C.Dn k (x <<< k) = x := by
  induction k with
  | zero => intro x _ _; simp [C.Dn]
  | succ k ih =>
    intro x hk h
    have e : C.D (x <<< (k + 1)) = x <<< k := by
      rw [C.D_even _ (by rw [BitVec.getLsbD_shiftLeft]; simp)]
      apply BitVec.eq_of_getLsbD_eq
      intro i hi
      simp only [BitVec.getLsbD_ushiftRight, BitVec.getLsbD_shiftLeft]
      by_cases h1 : i < k
      · rw [decide_eq_true (show 1 + i < k + 1 by omega), decide_eq_true h1]; simp
      · rw [decide_eq_false (show ¬ 1 + i < k + 1 by omega), decide_eq_false h1, show 1 + i - (k + 1) = i - k by omega, decide_eq_true hi]
        by_cases h2 : 1 + i < 32
        · rw [decide_eq_true h2]
        · rw [h (i - k) (by omega)]; simp
    show C.Dn k (C.D (x <<< (k + 1))) = x
    rw [e]
    exact ih x (by omega) (fun j hj => h j (by omega))

set_option maxRecDepth 100000 in
theorem z8_high (c : UInt8) (j : Nat) (hj : 8 ≤ j) : (C.z8 c).getLsbD j = false := by
  unfold C.z8
  rw [BitVec.getLsbD_ofNat, Nat.testBit_lt_two_pow (Nat.lt_of_lt_of_le c.toNat_lt (Nat.pow_le_pow_right (by decide) hj))]
  simp
set_option maxRecDepth 100000 in
theorem unle_xor (c0 c1 c2 c3 : UInt8) : unle c0 c1 c2 c3 = C.z8 c0 ^^^ (C.z8 c1 <<< 8) ^^^ (C.z8 c2 <<< 16) ^^^ (C.z8 c3 <<< 24) := by
  unfold unle
  apply BitVec.eq_of_getLsbD_eq
  intro i hi
  simp only [BitVec.getLsbD_or, BitVec.getLsbD_xor, BitVec.getLsbD_shiftLeft]
  rw [decide_eq_true hi]
  by_cases h8 : i < 8
  · rw [decide_eq_true h8, decide_eq_true (show i < 16 by omega), decide_eq_true (show i < 24 by omega)]; simp
  · rw [z8_high c0 i (by omega), decide_eq_false h8]
    by_cases h16 : i < 16
    · rw [decide_eq_true h16, decide_eq_true (show i < 24 by omega)]; simp
    · rw [z8_high c1 (i - 8) (by omega), decide_eq_false h16]
      by_cases h24 : i < 24
      · rw [decide_eq_true h24]; simp
      · rw [z8_high c2 (i - 16) (by omega), decide_eq_false h24]; simp
set_option maxRecDepth 100000 in
/-- Four bytes at once. -/
theorem raw_four (h : C.V) (c0 c1 c2 c3 : UInt8) : C.raw h [c0, c1, c2, c3] = C.Dn 32 (h ^^^ unle c0 c1 c2 c3) := by
  have u1 : C.Dn 24 (C.z8 c1) = C.Dn 32 (C.z8 c1 <<< 8) := by
    have h0 := C.Dn_add 8 24 (C.z8 c1 <<< 8)
    rw [Dn_up 8 _ (by decide) (fun j hj => z8_high _ _ (by omega))] at h0
    exact h0
  have u2 : C.Dn 16 (C.z8 c2) = C.Dn 32 (C.z8 c2 <<< 16) := by
    have h0 := C.Dn_add 16 16 (C.z8 c2 <<< 16)
    rw [Dn_up 16 _ (by decide) (fun j hj => z8_high _ _ (by omega))] at h0
    exact h0
  have u3 : C.Dn 8 (C.z8 c3) = C.Dn 32 (C.z8 c3 <<< 24) := by
    have h0 := C.Dn_add 24 8 (C.z8 c3 <<< 24)
    rw [Dn_up 24 _ (by decide) (fun j hj => z8_high _ _ (by omega))] at h0
    exact h0
  show C.Dn 8 (C.Dn 8 (C.Dn 8 (C.Dn 8 (h ^^^ C.z8 c0) ^^^ C.z8 c1) ^^^ C.z8 c2) ^^^ C.z8 c3) = _
  rw [unle_xor]
  simp only [C.Dn_xor, C.Dn_add]
  rw [show C.Dn (8 + 8) (C.z8 c2) = C.Dn 16 (C.z8 c2) from rfl, show C.Dn (8 + 8 + 8) (C.z8 c1) = C.Dn 24 (C.z8 c1) from rfl, show C.Dn (8 + 8 + 8 + 8) (C.z8 c0) = C.Dn 32 (C.z8 c0) from rfl, show C.Dn (8 + 8 + 8 + 8) h = C.Dn 32 h from rfl, u1, u2, u3]
  ac_rfl
set_option maxRecDepth 100000 in
/-- What is sealed leaves one rest. -/
theorem raw_sealed (bs : List UInt8) : C.raw (~~~ 0#32) (sealed bs) = C.Dn 32 (~~~ 0#32) := by
  unfold sealed
  rw [C.raw_app]
  show C.raw _ [_, _, _, _] = _
  rw [raw_four, unle_le]
  unfold C.sum
  congr 1
  rw [BitVec.xor_comm, C.not_xor (C.raw _ bs), BitVec.xor_assoc, BitVec.xor_comm (~~~ 0#32), ← BitVec.xor_assoc]
  simp

set_option maxRecDepth 100000 in
theorem Dn_two (j : Nat) (h : j < 32) : C.Dn j (BitVec.twoPow 32 j) = 1#32 := by
  have : ∀ k : Fin 32, C.Dn k.val (BitVec.twoPow 32 k.val) = 1#32 := by decide +kernel
  exact this ⟨j, h⟩
set_option maxRecDepth 100000 in
theorem Dn_two' (m j : Nat) (h : j < 32) (hm : j ≤ m) : C.Dn m (BitVec.twoPow 32 j) = C.Dn (m - j) 1#32 := by
  conv => lhs; rw [show m = j + (m - j) by omega]
  rw [← C.Dn_add, Dn_two j h]

/-- Bit t turned. -/
def flip (cs : List UInt8) (t : Nat) : List UInt8 := cs.modify (t / 8) (fun c => c ^^^ UInt8.ofNat (2 ^ (t % 8)))
set_option maxRecDepth 100000 in
theorem len_flip (cs : List UInt8) (t : Nat) : (flip cs t).length = cs.length := by simp [flip]
set_option maxRecDepth 100000 in
theorem z8_bit (j : Nat) (h : j < 8) : C.z8 (UInt8.ofNat (2 ^ j)) = BitVec.twoPow 32 j := by
  have : ∀ k : Fin 8, C.z8 (UInt8.ofNat (2 ^ k.val)) = BitVec.twoPow 32 k.val := by decide +kernel
  exact this ⟨j, h⟩
set_option maxRecDepth 100000 in
theorem z8_xor (a b : UInt8) : C.z8 (a ^^^ b) = C.z8 a ^^^ C.z8 b := by
  apply BitVec.eq_of_toNat_eq
  unfold C.z8
  rw [BitVec.toNat_xor]
  have ha := a.toNat_lt
  have hb := b.toNat_lt
  have hx := (a ^^^ b).toNat_lt
  simp only [BitVec.toNat_ofNat]
  rw [Nat.mod_eq_of_lt (by omega), Nat.mod_eq_of_lt (by omega), Nat.mod_eq_of_lt (by omega), UInt8.toNat_xor]
set_option maxRecDepth 100000 in
theorem raw_flip (h : C.V) (cs : List UInt8) (t : Nat) (ht : t < 8 * cs.length) : C.raw h (flip cs t) = C.raw h cs ^^^ C.Dn (8 * cs.length - t) 1#32 := by
  have hi : t / 8 < cs.length := by omega
  have e1 : cs = cs.take (t / 8) ++ cs[t / 8] :: cs.drop (t / 8 + 1) := by
    rw [← List.drop_eq_getElem_cons hi, List.take_append_drop]
  have e2 : flip cs t = cs.take (t / 8) ++ (cs[t / 8] ^^^ UInt8.ofNat (2 ^ (t % 8))) :: cs.drop (t / 8 + 1) := by
    unfold flip
    rw [List.modify_eq_take_cons_drop hi]
  have hl : (cs.drop (t / 8 + 1)).length = cs.length - (t / 8 + 1) := List.length_drop
  rw [e2]
  conv => rhs; lhs; rw [e1]
  rw [C.raw_app, C.raw_app]
  generalize C.raw h (cs.take (t / 8)) = r
  generalize cs[t / 8] = c
  show C.raw (C.Dn 8 (r ^^^ C.z8 (c ^^^ _))) _ = C.raw (C.Dn 8 (r ^^^ C.z8 c)) _ ^^^ _
  rw [z8_xor, z8_bit _ (by omega), ← BitVec.xor_assoc, C.Dn_xor, C.raw_xor, C.Dn_add, hl, Dn_two' _ _ (by omega) (by omega)]
  congr 2
  omega

/-- The lowest i bits. -/
def lowb (b : C.V) : Nat → C.V
  | 0 => 0#32
  | i + 1 => lowb b i ^^^ (if b.getLsbD i then BitVec.twoPow 32 i else 0#32)
set_option maxRecDepth 100000 in
theorem lowb_bit (b : C.V) (i : Nat) : ∀ j, j < 32 → (lowb b i).getLsbD j = (decide (j < i) && b.getLsbD j) := by
  induction i with
  | zero => intro j _; simp [lowb]
  | succ i ih =>
    intro j hj
    simp only [lowb]
    rw [BitVec.getLsbD_xor, ih j hj]
    by_cases h : j = i
    · subst h
      rw [decide_eq_false (by omega), decide_eq_true (by omega)]
      cases hb : b.getLsbD j
      · simp
      · simp [hj]
    · have e : (if b.getLsbD i then BitVec.twoPow 32 i else 0#32).getLsbD j = false := by
        split
        · rw [BitVec.getLsbD_twoPow]; simp; omega
        · simp
      rw [e]
      by_cases h1 : j < i
      · rw [decide_eq_true h1, decide_eq_true (by omega)]; simp
      · rw [decide_eq_false h1, decide_eq_false (by omega)]; simp
set_option maxRecDepth 100000 in
theorem lowb_ne (b : C.V) (i j : Nat) (hj : j < 32) (hi : j < i) (h : b.getLsbD j = true) : lowb b i ≠ 0#32 := by
  intro e
  have := lowb_bit b i j hj
  rw [e, decide_eq_true hi, h] at this
  simp at this
/-- What has been turned so far. -/
structure Burst (bs cs : List UInt8) (bits : C.V) (k i : Nat) (t : Bool) : Prop where
  len : cs.length = bs.length + 4
  sum : C.raw (~~~ 0#32) cs = C.raw (~~~ 0#32) (sealed bs) ^^^ C.Dn (8 * (bs.length + 4) - k) (lowb bits i)
  same : t = false → cs = sealed bs
  some : t = true → lowb bits i ≠ 0#32
theorem Burst.start (bs : List UInt8) (bits : C.V) (k : Nat) : Burst bs (sealed bs) bits k 0 false :=
  ⟨len_sealed bs, by simp [lowb, C.Dn_zero], fun _ => rfl, fun h => by cases h⟩
set_option maxRecDepth 100000 in
theorem lowb_skip (b : C.V) (i : Nat) (h : b.getLsbD i = false) : lowb b (i + 1) = lowb b i := by simp [lowb, h]
set_option maxRecDepth 100000 in
theorem Burst.skip {bs cs : List UInt8} {bits : C.V} {k i : Nat} {t : Bool} (h : Burst bs cs bits k i t) (hb : bits.getLsbD i = false) : Burst bs cs bits k (i + 1) t := by
  have e := lowb_skip bits i hb
  exact ⟨h.len, by rw [e]; exact h.sum, h.same, by rw [e]; exact h.some⟩
set_option maxRecDepth 100000 in
theorem Burst.turn {bs cs : List UInt8} {bits : C.V} {k i : Nat} {t : Bool} (h : Burst bs cs bits k i t) (hi : i < 32) (hb : bits.getLsbD i = true) (hk : k + i < 8 * (bs.length + 4)) : Burst bs (flip cs (k + i)) bits k (i + 1) true := by
  refine ⟨by rw [len_flip]; exact h.len, ?_, (fun e => by cases e), fun _ => lowb_ne bits (i + 1) i hi (by omega) hb⟩
  rw [raw_flip _ _ _ (by rw [h.len]; exact hk), h.sum, h.len]
  have e : lowb bits (i + 1) = lowb bits i ^^^ BitVec.twoPow 32 i := by simp [lowb, hb]
  rw [e, C.Dn_xor, Dn_two' _ _ hi (by omega), show 8 * (bs.length + 4) - k - i = 8 * (bs.length + 4) - (k + i) by omega]
  ac_rfl
set_option maxRecDepth 100000 in
/-- Turned bits are found. -/
theorem Burst.found {bs cs : List UInt8} {bits : C.V} {k i : Nat} (h : Burst bs cs bits k i true) : sealed (cs.take (cs.length - 4)) ≠ cs := by
  intro e
  have h1 := raw_sealed (cs.take (cs.length - 4))
  rw [e, h.sum, raw_sealed] at h1
  have h2 : C.Dn (8 * (bs.length + 4) - k) (lowb bits i) = 0#32 := by
    have := congrArg (fun x => C.Dn 32 (~~~ 0#32) ^^^ x) h1
    simpa [← BitVec.xor_assoc] using this
  exact h.some rfl (C.Dn_inj0 _ h2)
end Go.Proofs.YtokbiekdompaoaaDoor
