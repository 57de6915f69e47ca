/- Texts put together: Open3, Burst, Bursts, SMath, WMath. -/
import Derived.Test.YtmmgfankbabfbaaDoorQ05
import Derived.Deep.RegionWith
import Derived.WideShapes
import Derived.Test.YtmmgfankbabfbaaDoorQ03
import Derived.Test.YtmmgfankbabfbaaDoorQ02
/- Open and the reference's, of whatever bytes. -/
namespace Go.Proofs.YtmmgfankbabfbaaDoor
open Go.RowKit

/-- What is opened. -/
def opened (bs : List UInt8) : List UInt8 := if bs.length < 4 then [] else if sealed (bs.take (bs.length - 4)) = bs then bs.take (bs.length - 4) else []
/-- Why not. -/
def openErr (bs : List UInt8) : Int := if bs.length < 4 then 21 else if sealed (bs.take (bs.length - 4)) = bs then 0 else 20

theorem four_of {l : List UInt8} (h : l.length = 4) : ∃ c0 c1 c2 c3, l = [c0, c1, c2, c3] := by
  match l, h with
  | [c0, c1, c2, c3], _ => exact ⟨c0, c1, c2, c3, rfl⟩
theorem cut4 {bs : List UInt8} (h : 4 ≤ bs.length) : ∃ body c0 c1 c2 c3, bs = body ++ [c0, c1, c2, c3] ∧ bs.take (bs.length - 4) = body := by
  obtain ⟨c0, c1, c2, c3, h4⟩ := four_of (l := bs.drop (bs.length - 4)) (by rw [List.length_drop]; omega)
  refine ⟨bs.take (bs.length - 4), c0, c1, c2, c3, ?_, rfl⟩
  rw [← h4, List.take_append_drop]
/-- What Open tells. -/
def POpen (w : World) (bs : List UInt8) (e : Ending) (w' : World) : Prop := ∃ ay cy, e = .returned (.tuple #[.slice ay (opened bs).length cy, .int .i64 (openErr bs)]) ∧ w'.ownsRow w.heap.size 5 1 (.slice ay (opened bs).length cy) (opened bs).length (S (opened bs)) ∧ Adds w w'
/-- What the reference's tells. -/
def PROpen (w : World) (bs : List UInt8) (e : Ending) (w' : World) : Prop := ∃ az cz, e = .returned (.tuple #[.slice az (opened bs).length cz, .int .i64 (openErr bs)]) ∧ At w' az (opened bs) ∧ Adds w w'

set_option maxHeartbeats 1000000 in
theorem open_short (a : Option Addr) (n cap : Nat) (hn : n < 4) (w : World) : Calls Tryd.prog 91 #[.slice a n cap] w fun e w' => e = .returned (.tuple #[.slice none 0 0, .int .i64 21]) ∧ w' = w := by
  go_enter Tryd.func91, Tryd.ntmps91
  go_wp2
  go_ret2
  exact ⟨rfl, rfl⟩
set_option maxHeartbeats 1000000 in
theorem ropen_short (a : Option Addr) (n cap : Nat) (hn : n < 4) (w : World) : Calls Tryd.prog 86 #[.slice a n cap] w fun e w' => e = .returned (.tuple #[.slice none 0 0, .int .i64 21]) ∧ w' = w := by
  go_enter Tryd.func86, Tryd.ntmps86
  go_wp2
  go_ret2
  exact ⟨rfl, rfl⟩

theorem open_any (a : Option Addr) (bs : List UInt8) (cap : Nat) (w : World) (hlen : bs.length ≤ 1000000) (hcap : bs.length ≤ cap) (hT : Tab w) (hA : At w a bs) : Calls Tryd.prog 91 #[.slice a bs.length cap] w (POpen w bs) := by
  by_cases h4 : bs.length < 4
  · refine (open_short a bs.length cap h4 w).mono ?_
    rintro e w' ⟨rfl, rfl⟩
    have e1 : opened bs = [] := by rw [opened, if_pos h4]
    have e2 : openErr bs = 21 := by rw [openErr, if_pos h4]
    refine ⟨none, 0, by rw [e1, e2]; rfl, ?_, Touch.refl _ _⟩
    rw [e1]
    exact World.ownsRow_nil _ _ _ _
  · obtain ⟨b, o, rfl⟩ := hA.ad (by omega)
    obtain ⟨body, c0, c1, c2, c3, hb, ht⟩ := cut4 (show 4 ≤ bs.length by omega)
    have hl : bs.length = body.length + 4 := by rw [hb]; simp
    have hiff : sealed body = bs ↔ le (C.sum body) = [c0, c1, c2, c3] := by rw [hb, sealed, List.append_cancel_left_eq]
    rw [hl]
    rw [hb] at hA
    refine (open_long b o cap body c0 c1 c2 c3 w (by omega) (by omega) hT hA).mono ?_
    rintro e w' ⟨hy, hno⟩
    by_cases hs : sealed body = bs
    · obtain ⟨g, cap1, rfl, hg, hown, hA1⟩ := hy (hiff.1 hs)
      have e1 : opened bs = body := by rw [opened, if_neg h4, ht, if_pos hs]
      have e2 : openErr bs = 0 := by rw [openErr, if_neg h4, ht, if_pos hs]
      exact ⟨some ⟨g, 0, none⟩, cap1, by rw [e1, e2], by rw [e1]; exact hown, hA1⟩
    · obtain ⟨rfl, hA1⟩ := hno (fun h => hs (hiff.2 h))
      have e1 : opened bs = [] := by rw [opened, if_neg h4, ht, if_neg hs]
      have e2 : openErr bs = 20 := by rw [openErr, if_neg h4, ht, if_neg hs]
      refine ⟨none, 0, by rw [e1, e2]; rfl, ?_, hA1⟩
      rw [e1]
      exact World.ownsRow_nil _ _ _ _

set_option maxRecDepth 100000 in
set_option maxHeartbeats 4000000 in
theorem ropen_long (a : Option Addr) (n cap : Nat) (x y : ByteArray) (w : World) (hn : n ≤ 1000000) (hcap : n + 4 ≤ cap) (hx : ∀ w', Adds w w' → (convert 91 9 (.slice a (n + 4) cap)).run Tryd.prog w' = .ok (.string x) w')
    (hs : Calls Tryd.prog 72 #[.slice a n cap] w.drew fun e w' => ∃ g cap2, e = .returned (.slice (some ⟨g, 0, none⟩) (n + 4) cap2) ∧ (convert 91 9 (.slice (some ⟨g, 0, none⟩) (n + 4) cap2)).run Tryd.prog w' = .ok (.string y) w' ∧ Adds w w') :
    Calls Tryd.prog 86 #[.slice a (n + 4) cap] w fun e w' => ((y = x ∧ e = .returned (.tuple #[.slice a n cap, .int .i64 0])) ∨ (y ≠ x ∧ e = .returned (.tuple #[.slice none 0 0, .int .i64 20]))) ∧ Adds w w' := by
  have HX := hid hx
  have HS := hid hs
  have hd := hx _ (Touch.refl _ w).drew
  have s1 := run_pre a (n + 4) cap n (by omega)
  have q1 : IntKind.i64.wrap ((n : Int) + 4 - 4) = (n : Int) := by rw [IntKind.wrap_i64]; omega
  have q2 : IntKind.i64.wrap (n : Int) = (n : Int) := by rw [IntKind.wrap_i64]; omega
  clear hx hs
  by_cases hxy : y = x
  · subst hxy
    go_enter Tryd.func86, Tryd.ntmps86
    go_wp2
    go_region_with (first | (go_at_call 72; refine HS.out.mono ?_; rintro e w1 ⟨g, cap2, rfl, hcv, hA1⟩; have hcw := HX.out _ hA1))
    all_goals go_wp2
    all_goals (go_ret2; exact ⟨.inl ⟨by first | rfl | trivial, rfl⟩, hA1⟩)
  · have HXY := hid hxy
    have hq : (y.toList == x.toList) = false := by
      rw [ByteArray.toList_eq, ByteArray.toList_eq, beq_eq_false_iff_ne]
      exact fun h => hxy (WideShapes.bytes_inj h)
    clear hxy
    go_enter Tryd.func86, Tryd.ntmps86
    go_wp2
    go_region_with (first | (go_at_call 72; refine HS.out.mono ?_; rintro e w1 ⟨g, cap2, rfl, hcv, hA1⟩; have hcw := HX.out _ hA1))
    all_goals go_wp2
    all_goals (go_ret2; exact ⟨.inr ⟨HXY.out, rfl⟩, hA1⟩)

theorem ropen_any (a : Option Addr) (bs : List UInt8) (cap : Nat) (w : World) (hlen : bs.length ≤ 1000000) (hcap : bs.length ≤ cap) (hA : At w a bs) : Calls Tryd.prog 86 #[.slice a bs.length cap] w (PROpen w bs) := by
  by_cases h4 : bs.length < 4
  · refine (ropen_short a bs.length cap h4 w).mono ?_
    rintro e w' ⟨rfl, rfl⟩
    have e1 : opened bs = [] := by rw [opened, if_pos h4]
    have e2 : openErr bs = 21 := by rw [openErr, if_pos h4]
    refine ⟨none, 0, by rw [e1, e2]; rfl, ?_, Touch.refl _ _⟩
    rw [e1]
    exact At.nil _ _
  · obtain ⟨b, o, rfl⟩ := hA.ad (by omega)
    have hl : bs.length = (bs.length - 4) + 4 := by omega
    have hpre := hA.pre (bs.length - 4)
    have hlt : (bs.take (bs.length - 4)).length = bs.length - 4 := by rw [List.length_take]; omega
    have hs := rseal_any (some ⟨b, o, none⟩) (bs.take (bs.length - 4)) cap w.drew (by omega) (fun e => by cases e) (hpre.adds (Touch.refl _ w).drew)
    rw [hlt] at hs
    have hcv : ∀ w', Adds w w' → (convert 91 9 (.slice (some ⟨b, o, none⟩) ((bs.length - 4) + 4) cap)).run Tryd.prog w' = .ok (.string ⟨bs.toArray⟩) w' := by
      intro w' h
      rw [← hl]
      exact conv_at w' _ bs cap (hA.adds h)
    have hcall := ropen_long (some ⟨b, o, none⟩) (bs.length - 4) cap ⟨bs.toArray⟩ ⟨(sealed (bs.take (bs.length - 4))).toArray⟩ w (by omega) (by omega) hcv (by
      refine hs.mono ?_
      rintro e w' ⟨g, cap2, rfl, hg, hown, hA'⟩
      rw [hlt] at hown
      refine ⟨g, cap2, by rw [hlt], ?_, (Touch.refl _ w).drew.trans hA'⟩
      have := conv_at w' _ _ cap2 (At.own hown)
      rw [len_sealed, hlt] at this
      exact this)
    rw [← hl] at hcall
    refine hcall.mono ?_
    rintro e w' ⟨h, hA'⟩
    have hstr : ∀ {x y : List UInt8}, ((⟨x.toArray⟩ : ByteArray) = ⟨y.toArray⟩) ↔ x = y := by
      intro x y
      constructor
      · intro h
        have := congrArg (fun b => b.data.toList) h
        simpa using this
      · intro h; rw [h]
    rcases h with ⟨he, rfl⟩ | ⟨hne, rfl⟩
    · have he' := hstr.1 he
      have e1 : opened bs = bs.take (bs.length - 4) := by rw [opened, if_neg h4, if_pos he']
      have e2 : openErr bs = 0 := by rw [openErr, if_neg h4, if_pos he']
      exact ⟨some ⟨b, o, none⟩, cap, by rw [e1, e2, hlt], by rw [e1]; exact hpre.adds hA', hA'⟩
    · have hne' : ¬ sealed (bs.take (bs.length - 4)) = bs := fun h => hne (hstr.2 h)
      have e1 : opened bs = [] := by rw [opened, if_neg h4, if_neg hne']
      have e2 : openErr bs = 20 := by rw [openErr, if_neg h4, if_neg hne']
      refine ⟨none, 0, by rw [e1, e2]; rfl, ?_, hA'⟩
      rw [e1]
      exact At.nil _ _
end Go.Proofs.YtmmgfankbabfbaaDoor

/- Bits turned within 32 bits running: what that does to the bits behind bytes. -/
namespace Go.Proofs.YtmmgfankbabfbaaDoor

/-- k places up and k down. -/
theorem Dn_up (k : Nat) : ∀ x : C.V, k ≤ 32 → (∀ j, 32 - k ≤ j → x.getLsbD j = false) → C.Dn k (x <<< k) = x := by
  induction k with
  | zero => intro x _ _; simp [C.Dn]
  | succ k ih =>
    intro x hk h
    have e : C.D (x <<< (k + 1)) = x <<< k := by
      rw [C.D_even _ (by rw [BitVec.getLsbD_shiftLeft]; simp)]
      apply BitVec.eq_of_getLsbD_eq
      intro i hi
      simp only [BitVec.getLsbD_ushiftRight, BitVec.getLsbD_shiftLeft]
      by_cases h1 : i < k
      · rw [decide_eq_true (show 1 + i < k + 1 by omega), decide_eq_true h1]; simp
      · rw [decide_eq_false (show ¬ 1 + i < k + 1 by omega), decide_eq_false h1, show 1 + i - (k + 1) = i - k by omega, decide_eq_true hi]
        by_cases h2 : 1 + i < 32
        · rw [decide_eq_true h2]
        · rw [h (i - k) (by omega)]; simp
    show C.Dn k (C.D (x <<< (k + 1))) = x
    rw [e]
    exact ih x (by omega) (fun j hj => h j (by omega))

theorem z8_high (c : UInt8) (j : Nat) (hj : 8 ≤ j) : (C.z8 c).getLsbD j = false := by
  unfold C.z8
  rw [BitVec.getLsbD_ofNat, Nat.testBit_lt_two_pow (Nat.lt_of_lt_of_le c.toNat_lt (Nat.pow_le_pow_right (by decide) hj))]
  simp
theorem unle_xor (c0 c1 c2 c3 : UInt8) : unle c0 c1 c2 c3 = C.z8 c0 ^^^ (C.z8 c1 <<< 8) ^^^ (C.z8 c2 <<< 16) ^^^ (C.z8 c3 <<< 24) := by
  unfold unle
  apply BitVec.eq_of_getLsbD_eq
  intro i hi
  simp only [BitVec.getLsbD_or, BitVec.getLsbD_xor, BitVec.getLsbD_shiftLeft]
  rw [decide_eq_true hi]
  by_cases h8 : i < 8
  · rw [decide_eq_true h8, decide_eq_true (show i < 16 by omega), decide_eq_true (show i < 24 by omega)]; simp
  · rw [z8_high c0 i (by omega), decide_eq_false h8]
    by_cases h16 : i < 16
    · rw [decide_eq_true h16, decide_eq_true (show i < 24 by omega)]; simp
    · rw [z8_high c1 (i - 8) (by omega), decide_eq_false h16]
      by_cases h24 : i < 24
      · rw [decide_eq_true h24]; simp
      · rw [z8_high c2 (i - 16) (by omega), decide_eq_false h24]; simp
/-- Four bytes at once. -/
theorem raw_four (h : C.V) (c0 c1 c2 c3 : UInt8) : C.raw h [c0, c1, c2, c3] = C.Dn 32 (h ^^^ unle c0 c1 c2 c3) := by
  have u1 : C.Dn 24 (C.z8 c1) = C.Dn 32 (C.z8 c1 <<< 8) := by
    have h0 := C.Dn_add 8 24 (C.z8 c1 <<< 8)
    rw [Dn_up 8 _ (by decide) (fun j hj => z8_high _ _ (by omega))] at h0
    exact h0
  have u2 : C.Dn 16 (C.z8 c2) = C.Dn 32 (C.z8 c2 <<< 16) := by
    have h0 := C.Dn_add 16 16 (C.z8 c2 <<< 16)
    rw [Dn_up 16 _ (by decide) (fun j hj => z8_high _ _ (by omega))] at h0
    exact h0
  have u3 : C.Dn 8 (C.z8 c3) = C.Dn 32 (C.z8 c3 <<< 24) := by
    have h0 := C.Dn_add 24 8 (C.z8 c3 <<< 24)
    rw [Dn_up 24 _ (by decide) (fun j hj => z8_high _ _ (by omega))] at h0
    exact h0
  show C.Dn 8 (C.Dn 8 (C.Dn 8 (C.Dn 8 (h ^^^ C.z8 c0) ^^^ C.z8 c1) ^^^ C.z8 c2) ^^^ C.z8 c3) = _
  rw [unle_xor]
  simp only [C.Dn_xor, C.Dn_add]
  rw [show C.Dn (8 + 8) (C.z8 c2) = C.Dn 16 (C.z8 c2) from rfl, show C.Dn (8 + 8 + 8) (C.z8 c1) = C.Dn 24 (C.z8 c1) from rfl, show C.Dn (8 + 8 + 8 + 8) (C.z8 c0) = C.Dn 32 (C.z8 c0) from rfl, show C.Dn (8 + 8 + 8 + 8) h = C.Dn 32 h from rfl, u1, u2, u3]
  ac_rfl
/-- What is sealed leaves one rest. -/
theorem raw_sealed (bs : List UInt8) : C.raw (~~~ 0#32) (sealed bs) = C.Dn 32 (~~~ 0#32) := by
  unfold sealed
  rw [C.raw_app]
  show C.raw _ [_, _, _, _] = _
  rw [raw_four, unle_le]
  unfold C.sum
  congr 1
  rw [BitVec.xor_comm, C.not_xor (C.raw _ bs), BitVec.xor_assoc, BitVec.xor_comm (~~~ 0#32), ← BitVec.xor_assoc]
  simp

theorem Dn_two (j : Nat) (h : j < 32) : C.Dn j (BitVec.twoPow 32 j) = 1#32 := by
  have : ∀ k : Fin 32, C.Dn k.val (BitVec.twoPow 32 k.val) = 1#32 := by decide +kernel
  exact this ⟨j, h⟩
theorem Dn_two' (m j : Nat) (h : j < 32) (hm : j ≤ m) : C.Dn m (BitVec.twoPow 32 j) = C.Dn (m - j) 1#32 := by
  conv => lhs; rw [show m = j + (m - j) by omega]
  rw [← C.Dn_add, Dn_two j h]

/-- Bit t turned. -/
def flip (cs : List UInt8) (t : Nat) : List UInt8 := cs.modify (t / 8) (fun c => c ^^^ UInt8.ofNat (2 ^ (t % 8)))
theorem len_flip (cs : List UInt8) (t : Nat) : (flip cs t).length = cs.length := by simp [flip]
theorem z8_bit (j : Nat) (h : j < 8) : C.z8 (UInt8.ofNat (2 ^ j)) = BitVec.twoPow 32 j := by
  have : ∀ k : Fin 8, C.z8 (UInt8.ofNat (2 ^ k.val)) = BitVec.twoPow 32 k.val := by decide +kernel
  exact this ⟨j, h⟩
theorem z8_xor (a b : UInt8) : C.z8 (a ^^^ b) = C.z8 a ^^^ C.z8 b := by
  apply BitVec.eq_of_toNat_eq
  unfold C.z8
  rw [BitVec.toNat_xor]
  have ha := a.toNat_lt
  have hb := b.toNat_lt
  have hx := (a ^^^ b).toNat_lt
  simp only [BitVec.toNat_ofNat]
  rw [Nat.mod_eq_of_lt (by omega), Nat.mod_eq_of_lt (by omega), Nat.mod_eq_of_lt (by omega), UInt8.toNat_xor]
theorem raw_flip (h : C.V) (cs : List UInt8) (t : Nat) (ht : t < 8 * cs.length) : C.raw h (flip cs t) = C.raw h cs ^^^ C.Dn (8 * cs.length - t) 1#32 := by
  have hi : t / 8 < cs.length := by omega
  have e1 : cs = cs.take (t / 8) ++ cs[t / 8] :: cs.drop (t / 8 + 1) := by
    rw [← List.drop_eq_getElem_cons hi, List.take_append_drop]
  have e2 : flip cs t = cs.take (t / 8) ++ (cs[t / 8] ^^^ UInt8.ofNat (2 ^ (t % 8))) :: cs.drop (t / 8 + 1) := by
    unfold flip
    rw [List.modify_eq_take_cons_drop hi]
  have hl : (cs.drop (t / 8 + 1)).length = cs.length - (t / 8 + 1) := List.length_drop
  rw [e2]
  conv => rhs; lhs; rw [e1]
  rw [C.raw_app, C.raw_app]
  generalize C.raw h (cs.take (t / 8)) = r
  generalize cs[t / 8] = c
  show C.raw (C.Dn 8 (r ^^^ C.z8 (c ^^^ _))) _ = C.raw (C.Dn 8 (r ^^^ C.z8 c)) _ ^^^ _
  rw [z8_xor, z8_bit _ (by omega), ← BitVec.xor_assoc, C.Dn_xor, C.raw_xor, C.Dn_add, hl, Dn_two' _ _ (by omega) (by omega)]
  congr 2
  omega

/-- The lowest i bits. -/
def lowb (b : C.V) : Nat → C.V
  | 0 => 0#32
  | i + 1 => lowb b i ^^^ (if b.getLsbD i then BitVec.twoPow 32 i else 0#32)
theorem lowb_bit (b : C.V) (i : Nat) : ∀ j, j < 32 → (lowb b i).getLsbD j = (decide (j < i) && b.getLsbD j) := by
  induction i with
  | zero => intro j _; simp [lowb]
  | succ i ih =>
    intro j hj
    simp only [lowb]
    rw [BitVec.getLsbD_xor, ih j hj]
    by_cases h : j = i
    · subst h
      rw [decide_eq_false (by omega), decide_eq_true (by omega)]
      cases hb : b.getLsbD j
      · simp
      · simp [hj]
    · have e : (if b.getLsbD i then BitVec.twoPow 32 i else 0#32).getLsbD j = false := by
        split
        · rw [BitVec.getLsbD_twoPow]; simp; omega
        · simp
      rw [e]
      by_cases h1 : j < i
      · rw [decide_eq_true h1, decide_eq_true (by omega)]; simp
      · rw [decide_eq_false h1, decide_eq_false (by omega)]; simp
theorem lowb_ne (b : C.V) (i j : Nat) (hj : j < 32) (hi : j < i) (h : b.getLsbD j = true) : lowb b i ≠ 0#32 := by
  intro e
  have := lowb_bit b i j hj
  rw [e, decide_eq_true hi, h] at this
  simp at this
/-- What has been turned so far. -/
structure Burst (bs cs : List UInt8) (bits : C.V) (k i : Nat) (t : Bool) : Prop where
  len : cs.length = bs.length + 4
  sum : C.raw (~~~ 0#32) cs = C.raw (~~~ 0#32) (sealed bs) ^^^ C.Dn (8 * (bs.length + 4) - k) (lowb bits i)
  same : t = false → cs = sealed bs
  some : t = true → lowb bits i ≠ 0#32
theorem Burst.start (bs : List UInt8) (bits : C.V) (k : Nat) : Burst bs (sealed bs) bits k 0 false :=
  ⟨len_sealed bs, by simp [lowb, C.Dn_zero], fun _ => rfl, fun h => by cases h⟩
theorem lowb_skip (b : C.V) (i : Nat) (h : b.getLsbD i = false) : lowb b (i + 1) = lowb b i := by simp [lowb, h]
theorem Burst.skip {bs cs : List UInt8} {bits : C.V} {k i : Nat} {t : Bool} (h : Burst bs cs bits k i t) (hb : bits.getLsbD i = false) : Burst bs cs bits k (i + 1) t := by
  have e := lowb_skip bits i hb
  exact ⟨h.len, by rw [e]; exact h.sum, h.same, by rw [e]; exact h.some⟩
theorem Burst.turn {bs cs : List UInt8} {bits : C.V} {k i : Nat} {t : Bool} (h : Burst bs cs bits k i t) (hi : i < 32) (hb : bits.getLsbD i = true) (hk : k + i < 8 * (bs.length + 4)) : Burst bs (flip cs (k + i)) bits k (i + 1) true := by
  refine ⟨by rw [len_flip]; exact h.len, ?_, (fun e => by cases e), fun _ => lowb_ne bits (i + 1) i hi (by omega) hb⟩
  rw [raw_flip _ _ _ (by rw [h.len]; exact hk), h.sum, h.len]
  have e : lowb bits (i + 1) = lowb bits i ^^^ BitVec.twoPow 32 i := by simp [lowb, hb]
  rw [e, C.Dn_xor, Dn_two' _ _ hi (by omega), show 8 * (bs.length + 4) - k - i = 8 * (bs.length + 4) - (k + i) by omega]
  ac_rfl
/-- Turned bits are found. -/
theorem Burst.found {bs cs : List UInt8} {bits : C.V} {k i : Nat} (h : Burst bs cs bits k i true) : sealed (cs.take (cs.length - 4)) ≠ cs := by
  intro e
  have h1 := raw_sealed (cs.take (cs.length - 4))
  rw [e, h.sum, raw_sealed] at h1
  have h2 : C.Dn (8 * (bs.length + 4) - k) (lowb bits i) = 0#32 := by
    have := congrArg (fun x => C.Dn 32 (~~~ 0#32) ^^^ x) h1
    simpa [← BitVec.xor_assoc] using this
  exact h.some rfl (C.Dn_inj0 _ h2)
end Go.Proofs.YtmmgfankbabfbaaDoor

/- The walk of CrcBursts. -/
namespace Go.Proofs.YtmmgfankbabfbaaDoor
open Go.RowKit

/-- A row that begins with these bytes. -/
def RowB (w : World) (g : Nat) (cs : List UInt8) : Prop := ∃ cur, w.heap[g]? = some (.cells cur 5 (0, 0)) ∧ ∀ (j : Nat) (c : UInt8), cs[j]? = some c → cur[j]? = some (.int .u8 (c.toNat : Int))
theorem RowB.of_own {w : World} {base g n cap : Nat} {bs : List UInt8} (h : w.ownsRow base 5 1 (.slice (some ⟨g, 0, none⟩) n cap) n (S bs)) : RowB w g bs := by
  rcases h.2 with ⟨e, _⟩ | ⟨g', cap', cur, e, _, hg, _, _, _, ht⟩
  · cases e
  · obtain ⟨rfl, _⟩ : g = g' ∧ cap = cap' := by simpa using e
    refine ⟨cur, hg, fun j c hj => ?_⟩
    have h2 : (S bs)[j]? = some (.int .u8 (c.toNat : Int)) := by rw [S_get, hj]; rfl
    rw [← ht, List.getElem?_take] at h2
    split at h2
    · rw [← Array.getElem?_toList]; exact h2
    · cases h2
theorem RowB.at {w : World} {g : Nat} {cs : List UInt8} (h : RowB w g cs) : At w (some ⟨g, 0, none⟩) cs := by
  obtain ⟨cur, hc, hz⟩ := h
  exact fun j c hj => ⟨g, 0, rfl, by rw [cell_of_row w g _ cur 5 _ hc, Nat.zero_add]; exact hz j c hj⟩
theorem RowB.cell {w : World} {g : Nat} {cs : List UInt8} (h : RowB w g cs) {q : Nat} {c : UInt8} (hq : cs[q]? = some c) : w.cell? ⟨g, q, none⟩ = some (.int .u8 (c.toNat : Int)) ∧ w.frozen? ⟨g, q, none⟩ = false := by
  obtain ⟨cur, hc, hz⟩ := h
  exact ⟨by rw [cell_of_row w g q cur 5 _ hc]; exact hz q c hq, frozen_of_row w g q cur 5 hc⟩
theorem RowB.set {w : World} {g : Nat} {cs : List UInt8} (h : RowB w g cs) (q : Nat) (v : UInt8) (hq : q < cs.length) : RowB (w.setCell ⟨g, q, none⟩ (.int .u8 (v.toNat : Int))) g (cs.set q v) := by
  obtain ⟨cur, hc, hz⟩ := h
  refine ⟨_, heap_setCell_same w g q cur 5 _ hc, fun j c hj => ?_⟩
  rw [List.getElem?_set] at hj
  rw [Array.getElem?_setIfInBounds]
  have hs : q < cur.size := (Array.getElem?_eq_some_iff.1 (hz q cs[q] (List.getElem?_eq_getElem hq))).1
  by_cases e : q = j
  · subst e
    rw [if_pos rfl, if_pos hq] at hj
    obtain rfl : v = c := by simpa using hj
    rw [if_pos rfl, if_pos hs]
  · rw [if_neg e] at hj
    rw [if_neg e]
    exact hz j c hj
theorem flip_set (cs : List UInt8) (t : Nat) (c : UInt8) (hc : cs[t / 8]? = some c) : flip cs t = cs.set (t / 8) (c ^^^ UInt8.ofNat (2 ^ (t % 8))) := by
  apply List.ext_getElem?
  intro j
  unfold flip
  rw [List.getElem?_modify, List.getElem?_set]
  have hl := (List.getElem?_eq_some_iff.1 hc).1
  by_cases e : t / 8 = j
  · subst e; simp [hl, (List.getElem?_eq_some_iff.1 hc).2]
  · simp [e]
theorem bits_xor8 (a b : UInt8) : bits .xor .u8 (a.toNat : Int) (b.toNat : Int) = ((a ^^^ b).toNat : Int) := by
  show IntKind.u8.wrap ((BitVec.ofInt 8 (a.toNat : Int) ^^^ BitVec.ofInt 8 (b.toNat : Int)).toNat : Int) = _
  have e : ∀ c : UInt8, BitVec.ofInt 8 (c.toNat : Int) = c.toBitVec := by
    intro c
    rw [BitVec.ofInt_natCast]
    apply BitVec.eq_of_toNat_eq
    simp
  have h : (BitVec.ofInt 8 (a.toNat : Int) ^^^ BitVec.ofInt 8 (b.toNat : Int)).toNat = (a ^^^ b).toNat := by
    rw [e, e, UInt8.toNat_xor, BitVec.toNat_xor]; rfl
  rw [h, wrap_byte]
theorem bit_and (x : C.V) (i : Nat) : bits .and .u32 (N (x >>> i)) 1 = if x.getLsbD i then 1 else 0 := by
  have e := bits_and (x >>> i) 1#32
  rw [show N 1#32 = 1 by decide] at e
  rw [e, low_and, BitVec.getLsbD_ushiftRight, Nat.add_zero]
  cases x.getLsbD i <;> decide
theorem bit_pow (r : Nat) (h : r < 8) : (2 : Int) ^ r = ((UInt8.ofNat (2 ^ r)).toNat : Int) := by
  have : ∀ k : Fin 8, (2 : Int) ^ k.val = ((UInt8.ofNat (2 ^ k.val)).toNat : Int) := by decide
  exact this ⟨r, h⟩
theorem opened_sealed (bs : List UInt8) : opened (sealed bs) = bs ∧ openErr (sealed bs) = 0 := by
  have hl := len_sealed bs
  have ht : (sealed bs).take ((sealed bs).length - 4) = bs := by
    rw [hl, Nat.add_sub_cancel]; unfold sealed; rw [List.take_left]
  have h4 : ¬ (sealed bs).length < 4 := by omega
  constructor
  · rw [opened, if_neg h4, ht, if_pos rfl]
  · rw [openErr, if_neg h4, ht, if_pos rfl]
theorem opened_found {bs cs : List UInt8} {b : C.V} {k i : Nat} (h : Burst bs cs b k i true) : opened cs = [] ∧ openErr cs = 20 := by
  have hl := h.len
  have hf := h.found
  have h4 : ¬ cs.length < 4 := by omega
  exact ⟨by rw [opened, if_neg h4, if_neg hf], by rw [openErr, if_neg h4, if_neg hf]⟩

namespace Bts
/-- What the loop keeps. -/
def Inv (w1 : World) (gs : Nat) (bs : List UInt8) (x : C.V) (kk i : Nat) (t : Bool) (wr : World) : Prop := ∃ cs, Burst bs cs x kk i t ∧ RowB wr gs cs ∧ Adds w1 wr ∧ w1.heap.size ≤ gs
theorem rembits (a : Int) (m : Nat) (hm : 0 < m) : ∃ k : Nat, k < m ∧ (IntKind.u64.wrap a).tmod (m : Int) = (k : Int) ∧ IntKind.u64.wrap a % (m : Int) = (k : Int) := by
  have hu : 0 ≤ IntKind.u64.wrap a := by
    simp only [IntKind.wrap]
    exact Int.emod_nonneg _ (by decide)
  have e0 := Int.emod_nonneg (IntKind.u64.wrap a) (show (m : Int) ≠ 0 by omega)
  have e1 := Int.emod_lt_of_pos (IntKind.u64.wrap a) (show (0 : Int) < (m : Int) by omega)
  exact ⟨(IntKind.u64.wrap a % (m : Int)).toNat, by omega, by rw [Int.tmod_eq_emod_of_nonneg hu]; omega, by omega⟩

end Bts
end Go.Proofs.YtmmgfankbabfbaaDoor

/- A stamped sector by definition; what follows of it. -/
namespace Go.Proofs.YtmmgfankbabfbaaDoor

namespace M
/-- What the sum is of. -/
def head (n : Nat) (k : UInt8) (b : List UInt8) : List UInt8 := fix n 8 ++ ([k, UInt8.ofNat b.length] ++ (b ++ List.replicate (234 - b.length) 0))
/-- The sector. -/
def sector (n : Nat) (k : UInt8) (b : List UInt8) : List UInt8 := sealed (head n k b) ++ fix n 8
def wErr (n : Nat) (k : UInt8) (b : List UInt8) : Nat := if n = 0 ∨ k = 0 then 2 else if 233 < b.length then 3 else 0
def kindOf (b : List UInt8) : UInt8 := b.getD 8 0
def lenOf (b : List UInt8) : Nat := (b.getD 9 0).toNat
def behindOf (b : List UInt8) : List UInt8 := (b.take 244).drop (10 + lenOf b)
/-- Is one of them not 0? -/
def some0 (l : List UInt8) : Bool := l.any (fun c => c != 0)
def oErr (b : List UInt8) : Nat :=
  if b.length ≠ 256 then 21 else if unfix (b.take 8) = 0 then 40 else if b.take 8 ≠ b.drop 248 then 23 else if openErr (b.take 248) ≠ 0 then 20
  else if kindOf b = 0 ∨ 233 < lenOf b ∨ some0 (behindOf b) = true then 22 else 0
def oMark (b : List UInt8) : Nat := if oErr b = 0 then unfix (b.take 8) else 0
def oKind (b : List UInt8) : UInt8 := if oErr b = 0 then kindOf b else 0
def oBody (b : List UInt8) : List UInt8 := if oErr b = 0 then (b.drop 10).take (lenOf b) else []
def cl (z : Int) : Nat := if z < 0 then 0 else if 256 < z then 256 else z.toNat
def torn (x y : List UInt8) (z : Int) : List UInt8 := y.take (cl z) ++ x.drop (cl z)

theorem cl_le (z : Int) : cl z ≤ 256 := by unfold cl; split <;> (try split) <;> omega
theorem len_head (n : Nat) (k : UInt8) (b : List UInt8) (h : b.length ≤ 233) : (head n k b).length = 244 := by
  unfold head; simp only [List.length_append, List.length_replicate, List.length_cons, List.length_nil, len_fix]; omega
theorem len_sector (n : Nat) (k : UInt8) (b : List UInt8) (h : b.length ≤ 233) : (sector n k b).length = 256 := by
  unfold sector; rw [List.length_append, len_sealed, len_head n k b h, len_fix]
theorem head_eq (n : Nat) (k : UInt8) (b : List UInt8) : head n k b = fix n 8 ++ (k :: UInt8.ofNat b.length :: (b ++ List.replicate (234 - b.length) 0)) := rfl
theorem sector_eq (n : Nat) (k : UInt8) (b : List UInt8) : sector n k b = fix n 8 ++ (k :: UInt8.ofNat b.length :: (b ++ (List.replicate (234 - b.length) 0 ++ (le (C.sum (head n k b)) ++ fix n 8)))) := by
  unfold sector sealed
  generalize le (C.sum (head n k b)) = l
  rw [head_eq]
  simp only [List.append_assoc, List.cons_append]
theorem sector_take8 (n : Nat) (k : UInt8) (b : List UInt8) : (sector n k b).take 8 = fix n 8 := by
  rw [sector_eq, List.take_left' (len_fix 8 n)]
theorem sector_take248 (n : Nat) (k : UInt8) (b : List UInt8) (h : b.length ≤ 233) : (sector n k b).take 248 = sealed (head n k b) := by
  unfold sector; rw [List.take_left' (by rw [len_sealed, len_head n k b h])]
theorem sector_drop248 (n : Nat) (k : UInt8) (b : List UInt8) (h : b.length ≤ 233) : (sector n k b).drop 248 = fix n 8 := by
  unfold sector; rw [List.drop_left' (by rw [len_sealed, len_head n k b h])]
theorem sector_take244 (n : Nat) (k : UInt8) (b : List UInt8) (h : b.length ≤ 233) : (sector n k b).take 244 = head n k b := by
  unfold sector sealed; rw [List.append_assoc, List.take_left' (len_head n k b h)]
theorem getD_app (x : List UInt8) (y : List UInt8) (m : Nat) (hx : x.length = m) (j : Nat) : (x ++ y).getD (m + j) 0 = y.getD j 0 := by
  rw [List.getD_eq_getElem?_getD, List.getD_eq_getElem?_getD, List.getElem?_append_right (by omega), hx, Nat.add_sub_cancel_left]
theorem sector_kind (n : Nat) (k : UInt8) (b : List UInt8) : kindOf (sector n k b) = k := by
  unfold kindOf; rw [sector_eq]; exact getD_app _ _ 8 (len_fix 8 n) 0
theorem sector_len (n : Nat) (k : UInt8) (b : List UInt8) (h : b.length ≤ 233) : lenOf (sector n k b) = b.length := by
  unfold lenOf; rw [sector_eq, show (9 : Nat) = 8 + 1 from rfl, getD_app _ _ 8 (len_fix 8 n) 1]
  exact ofNat_toNat _ (by omega)
theorem sector_drop10 (n : Nat) (k : UInt8) (b : List UInt8) : (sector n k b).drop 10 = b ++ (List.replicate (234 - b.length) 0 ++ (le (C.sum (head n k b)) ++ fix n 8)) := by
  rw [sector_eq, show (10 : Nat) = 8 + 2 from rfl, ← List.drop_drop, List.drop_left' (len_fix 8 n)]; rfl
theorem head_drop (n : Nat) (k : UInt8) (b : List UInt8) : (head n k b).drop (10 + b.length) = List.replicate (234 - b.length) 0 := by
  rw [head_eq, show 10 + b.length = 8 + (2 + b.length) by omega, ← List.drop_drop, List.drop_left' (len_fix 8 n), ← List.drop_drop]
  show (b ++ _).drop b.length = _
  rw [List.drop_left]
theorem some0_rep (m : Nat) : some0 (List.replicate m 0) = false := by
  unfold some0
  rw [List.any_eq_false]
  intro c hc
  rw [List.eq_of_mem_replicate hc]; simp
/-- What is wrapped is opened. -/
theorem sector_opens (n : Nat) (k : UInt8) (b : List UInt8) (hn : 0 < n) (hn2 : n < 18446744073709551616) (hk : k ≠ 0) (h : b.length ≤ 233) :
    oErr (sector n k b) = 0 ∧ oMark (sector n k b) = n ∧ oKind (sector n k b) = k ∧ oBody (sector n k b) = b := by
  have hu : unfix (fix n 8) = n := by rw [unfix_fix, Nat.mod_eq_of_lt (by omega)]
  have e : oErr (sector n k b) = 0 := by
    unfold oErr
    rw [if_neg (by rw [len_sector n k b h]; simp), sector_take8, hu, if_neg (by omega), sector_drop248 n k b h, if_neg (by simp), sector_take248 n k b h, if_neg (by rw [(opened_sealed _).2]; simp), if_neg]
    unfold behindOf
    rw [sector_kind, sector_len n k b h, sector_take244 n k b h, head_drop, some0_rep]
    rintro (h1 | h1 | h1)
    · exact hk h1
    · omega
    · cases h1
  refine ⟨e, ?_, ?_, ?_⟩
  · rw [oMark, if_pos e, sector_take8, hu]
  · rw [oKind, if_pos e, sector_kind]
  · rw [oBody, if_pos e, sector_drop10, sector_len n k b h, List.take_left]
theorem refused {b : List UInt8} (h : oErr b ≠ 0) : oMark b = 0 ∧ oKind b = 0 ∧ oBody b = [] := by
  exact ⟨by rw [oMark, if_neg h], by rw [oKind, if_neg h], by rw [oBody, if_neg h]⟩

theorem len_torn (x y : List UInt8) (z : Int) (hx : x.length = 256) (hy : y.length = 256) : (torn x y z).length = 256 := by
  have := cl_le z
  unfold torn; rw [List.length_append, List.length_take, List.length_drop]; omega
theorem torn_take (x y : List UInt8) (z : Int) (hy : y.length = 256) (d : Nat) (hd : d ≤ cl z) : (torn x y z).take d = y.take d := by
  have := cl_le z
  unfold torn
  rw [List.take_append_of_le_length (by rw [List.length_take]; omega), List.take_take, Nat.min_eq_left hd]
theorem torn_drop (x y : List UInt8) (z : Int) (hy : y.length = 256) (d : Nat) (hd : cl z ≤ d) : (torn x y z).drop d = x.drop d := by
  have := cl_le z
  unfold torn
  rw [List.drop_append, List.drop_eq_nil_of_le (by rw [List.length_take]; omega), List.nil_append, List.drop_drop, List.length_take, Nat.min_eq_left (by omega)]
  congr 1; omega
theorem same_parts {x t : List UInt8} (d : Nat) (h1 : t.take d = x.take d) (h2 : t.drop d = x.drop d) : t = x := by
  rw [← List.take_append_drop d t, h1, h2, List.take_append_drop]
/-- A torn sector is none. -/
theorem torn_whole {x y : List UInt8} {z : Int} {a b : List UInt8} (hx : x.length = 256) (hy : y.length = 256) (x1 : x.take 8 = a) (x2 : x.drop 248 = a) (y1 : y.take 8 = b) (y2 : y.drop 248 = b) (hab : a ≠ b)
    (tx : torn x y z ≠ x) (ty : torn x y z ≠ y) : oErr (torn x y z) ≠ 0 := by
  intro h
  unfold oErr at h
  rw [if_neg (by rw [len_torn x y z hx hy]; simp)] at h
  split at h
  · cases h
  · split at h
    · cases h
    · rename_i h2
      have h3 : (torn x y z).take 8 = (torn x y z).drop 248 := Classical.not_not.1 h2
      by_cases c1 : cl z ≤ 8
      · refine tx (same_parts 8 ?_ (torn_drop x y z hy 8 c1))
        rw [h3, torn_drop x y z hy 248 (by omega), x1, x2]
      · rw [torn_take x y z hy 8 (by omega)] at h3
        by_cases c2 : cl z ≤ 248
        · rw [torn_drop x y z hy 248 c2, y1, x2] at h3
          exact hab h3.symm
        · exact ty (same_parts 248 (torn_take x y z hy 248 (by omega)) (by rw [← h3, y1, y2]))
theorem noughts_err : oErr (List.replicate 256 0) = 40 := by decide +kernel
/-- Turned bits are told. -/
theorem burst_err {cs f : List UInt8} (hc : cs.length = 248) (he : openErr cs = 20) : oErr (cs ++ f) ≠ 0 := by
  unfold oErr
  rw [List.take_left' hc, he]
  split
  · simp
  · split
    · simp
    · split
      · simp
      · simp
end M

theorem flip_app (cs f : List UInt8) (t : Nat) (h : t < 8 * cs.length) : flip (cs ++ f) t = flip cs t ++ f := by
  apply List.ext_getElem?
  intro j
  unfold flip
  rw [List.getElem?_modify]
  by_cases hj : j < cs.length
  · rw [List.getElem?_append_left hj, List.getElem?_append_left (by rw [List.length_modify]; exact hj), List.getElem?_modify]
  · rw [List.getElem?_append_right (by omega), List.getElem?_append_right (by rw [List.length_modify]; omega), List.length_modify]
    simp [show ¬ t / 8 = j by omega]
theorem five : (M.sector 5 1 [])[7]? = some 5 ∧ (M.sector 5 1 [])[8]? = some 1 ∧ (M.sector 5 1 [])[9]? = some 0 ∧ (M.sector 5 1 [])[255]? = some 5 := by decide +kernel
end Go.Proofs.YtmmgfankbabfbaaDoor

/- A log's groups by definition: their bytes, their pieces, and which of them stand. -/
namespace Go.Proofs.YtmmgfankbabfbaaDoor
namespace W
open M

/-- How many sectors a group of n bytes has. -/
def secs (n : Nat) : Nat := (4 + n + 232) / 233
def text (r : List UInt8) : List UInt8 := enc r.length ++ r
def texts : List (List UInt8) → List UInt8
  | [] => []
  | r :: l => text r ++ texts l
/-- A group's bytes. -/
def gbytes (l : List (List UInt8)) : List UInt8 := enc l.length ++ texts l
/-- With how many they are ahead. -/
def full (g : List UInt8) : List UInt8 := fix g.length 4 ++ g
def piece (b : List UInt8) (j : Nat) : List UInt8 := (b.drop (233 * j)).take 233
def mark (e i : Nat) : Nat := e * 16777216 + i + 1
def kind (n : Nat) : UInt8 := if n = 0 then 1 else 2
/-- How many bytes all pieces of a group have, as the first ones tell. -/
def need (b : List UInt8) : Nat := 4 + (fixedR 4 ⟨0, b.take 4⟩).1
/-- The reader behind k texts, and these. -/
def stN (most : Int) (s : St) : Nat → St
  | 0 => s
  | k + 1 => (textR most (stN most s k)).2
def lsN (most : Int) (s : St) : Nat → List (List UInt8)
  | 0 => []
  | k + 1 => lsN most s k ++ [(textR most (stN most s k)).1]
/-- A group's records. -/
def recsM (most : Int) (g : List UInt8) : List (List UInt8) :=
  if endE (stN most (uintR g.length ⟨0, g⟩).2 (uintR g.length ⟨0, g⟩).1) = 0 then lsN most (uintR g.length ⟨0, g⟩).2 (uintR g.length ⟨0, g⟩).1 else []
def recs (g : List UInt8) : List (List UInt8) := recsM (g.length : Int) g

theorem texts_app : ∀ (a b : List (List UInt8)), texts (a ++ b) = texts a ++ texts b
  | [], b => rfl
  | r :: a, b => by rw [List.cons_append, texts, texts, texts_app a b, List.append_assoc]
set_option maxRecDepth 100000 in
theorem texts_one (r : List UInt8) : texts [r] = text r := by simp [texts]
theorem lsN_len (most : Int) (s : St) : ∀ k, (lsN most s k).length = k
  | 0 => rfl
  | k + 1 => by rw [lsN, List.length_append, lsN_len most s k]; rfl
set_option maxRecDepth 100000 in
theorem enc_pos (n : Nat) : 0 < (enc n).length := by
  by_cases h : n < 128
  · rw [enc_small h]; simp
  · rw [enc_big h]; simp
set_option maxRecDepth 100000 in
theorem text_pos (r : List UInt8) : 0 < (text r).length := by rw [text, List.length_append]; have := enc_pos r.length; omega
theorem texts_len : ∀ l : List (List UInt8), l.length ≤ (texts l).length
  | [] => Nat.zero_le _
  | r :: l => by rw [texts, List.length_append, List.length_cons]; have := texts_len l; have := text_pos r; omega
theorem texts_mem {r : List UInt8} : ∀ {l : List (List UInt8)}, r ∈ l → r.length ≤ (texts l).length
  | x :: l, h => by
    rw [texts, List.length_append]
    rcases List.mem_cons.1 h with rfl | h
    · rw [text, List.length_append]; omega
    · have := texts_mem h; omega

set_option maxRecDepth 100000 in
theorem textR_text (most : Int) (r t : List UInt8) (h : (r.length : Int) ≤ most) (h2 : r.length < 18446744073709551616) : textR most ⟨0, text r ++ t⟩ = (r, ⟨0, t⟩) := by
  have hs : scan 0 (text r ++ t) = .ok (r.length, r ++ t) := by rw [text, List.append_assoc]; exact scan_put _ h2 _
  have hu : uintR (atLeast0 most) ⟨0, text r ++ t⟩ = (r.length, ⟨0, r ++ t⟩) := uintR_ok rfl hs (by unfold atLeast0; split <;> omega)
  rw [textR, hu]
  rw [takeR_ok rfl (by simp)]
  simp
set_option maxRecDepth 100000 in
theorem uintR_good {most : Nat} {s : St} (h : (uintR most s).2.e = 0) : s.e = 0 ∧ s.l = enc (uintR most s).1 ++ (uintR most s).2.l := by
  by_cases he : s.e = 0
  · cases hs : scan 0 s.l with
    | error e =>
      rw [uintR_err he hs] at h
      have := scan_err _ _ _ hs
      simp at h; omega
    | ok x =>
      obtain ⟨n, r⟩ := x
      by_cases hm : most < n
      · rw [uintR_big he hs hm] at h; simp at h
      · rw [uintR_ok he hs hm]
        exact ⟨he, (scan_one hs).1⟩
  · rw [uintR_ref he] at h; exact absurd h he
set_option maxRecDepth 100000 in
theorem takeR_good {n : Nat} {s : St} (h : (takeR n s).2.e = 0) : s.e = 0 ∧ s.l = (takeR n s).1 ++ (takeR n s).2.l ∧ (takeR n s).1.length = n := by
  by_cases he : s.e = 0
  · by_cases hl : s.l.length < n
    · rw [takeR_short he hl] at h; simp at h
    · rw [takeR_ok he hl]
      exact ⟨he, by simp, by simp; omega⟩
  · rw [takeR_ref he] at h; exact absurd h he
set_option maxRecDepth 100000 in
theorem textR_good {most : Int} {s : St} (h : (textR most s).2.e = 0) : s.e = 0 ∧ s.l = text (textR most s).1 ++ (textR most s).2.l := by
  unfold textR at h ⊢
  obtain ⟨h1, h2, h3⟩ := takeR_good h
  obtain ⟨h4, h5⟩ := uintR_good h1
  refine ⟨h4, ?_⟩
  rw [text, h3, List.append_assoc, ← h2]; exact h5
theorem stN_good {most : Int} {s : St} : ∀ k, (stN most s k).e = 0 → s.e = 0 ∧ s.l = texts (lsN most s k) ++ (stN most s k).l
  | 0, h => ⟨h, by simp [texts, lsN, stN]⟩
  | k + 1, h => by
    obtain ⟨h1, h2⟩ := textR_good (most := most) (s := stN most s k) h
    obtain ⟨h3, h4⟩ := stN_good k h1
    refine ⟨h3, ?_⟩
    rw [lsN, texts_app, texts_one, List.append_assoc, h4, h2]
    rfl
theorem stN_put (most : Int) (l : List (List UInt8)) (t : List UInt8) (h : ((texts l).length : Int) ≤ most) (h2 : most < 18446744073709551616) : ∀ k, k ≤ l.length → stN most ⟨0, texts l ++ t⟩ k = ⟨0, texts (l.drop k) ++ t⟩ ∧ lsN most ⟨0, texts l ++ t⟩ k = l.take k
  | 0, _ => ⟨rfl, rfl⟩
  | k + 1, hk => by
    obtain ⟨h3, h4⟩ := stN_put most l t h h2 k (by omega)
    have hr : (l[k]'(by omega)).length ≤ (texts l).length := texts_mem (List.getElem_mem _)
    have ht := textR_text most (l[k]'(by omega)) (texts (l.drop (k + 1)) ++ t) (by omega) (by omega)
    rw [stN, lsN, h3, h4, List.drop_eq_getElem_cons (by omega), texts, List.append_assoc, ht]
    refine ⟨rfl, ?_⟩
    rw [List.take_succ_eq_append_getElem (by omega)]
set_option maxRecDepth 100000 in
theorem endE_zero {s : St} (h : endE s = 0) : s.e = 0 ∧ s.l = [] := by
  unfold endE at h
  split at h
  · cases h
  · exact ⟨h, List.eq_nil_of_length_eq_zero (by omega)⟩
set_option maxRecDepth 100000 in
/-- What was put is read. -/
theorem recsM_put (most : Int) (l : List (List UInt8)) (hm : ((gbytes l).length : Int) ≤ most) (h2 : most < 18446744073709551616) : recsM most (gbytes l) = l := by
  have hg : (gbytes l).length = (enc l.length).length + (texts l).length := by rw [gbytes, List.length_append]
  have hl := texts_len l
  have hu : uintR (gbytes l).length ⟨0, gbytes l⟩ = (l.length, ⟨0, texts l⟩) := uintR_ok rfl (scan_put _ (by omega) _) (by omega)
  have h := stN_put most l [] (by omega) h2 l.length (Nat.le_refl _)
  rw [List.append_nil] at h
  unfold recsM
  rw [hu]
  simp only [h.1, h.2]
  rw [if_pos (by simp [endE, texts])]
  simp
theorem recs_put (l : List (List UInt8)) (h2 : (gbytes l).length < 1000000000) : recs (gbytes l) = l := recsM_put _ l (Int.le_refl _) (by omega)
set_option maxRecDepth 100000 in
/-- What is read was put so. -/
theorem recsM_one {most : Int} {g : List UInt8} (h : recsM most g ≠ []) : g = gbytes (recsM most g) := by
  unfold recsM at h ⊢
  split at h
  · rename_i h0
    rw [if_pos h0]
    obtain ⟨h1, h2⟩ := endE_zero h0
    obtain ⟨h3, h4⟩ := stN_good _ h1
    obtain ⟨_, h6⟩ := uintR_good h3
    rw [gbytes, lsN_len]
    rw [h2, List.append_nil] at h4
    rw [← h4]; exact h6
  · exact absurd rfl h
theorem recs_one {g : List UInt8} (h : recs g ≠ []) : g = gbytes (recs g) := recsM_one h
set_option maxRecDepth 100000 in
/-- The bound of a text is none where all bytes are within it. -/
theorem recsM_most {m1 m2 : Int} {g : List UInt8} (h1 : (g.length : Int) ≤ m1) (h2 : (g.length : Int) ≤ m2) (h3 : m1 < 18446744073709551616) (h4 : m2 < 18446744073709551616) : recsM m1 g = recsM m2 g := by
  by_cases a : recsM m1 g = []
  · by_cases b : recsM m2 g = []
    · rw [a, b]
    · have e := recsM_one b
      have := recsM_put m1 (recsM m2 g) (by rw [← e]; exact h1) h3
      rw [← e] at this; exact this
  · have e := recsM_one a
    have := recsM_put m2 (recsM m1 g) (by rw [← e]; exact h2) h4
    rw [← e] at this; exact this.symm

/-- The groups that stand: n sectors are left, from i on; b: the pieces of a group that is not whole yet. -/
def find (e : Nat) (sec : Nat → List UInt8) : Nat → Nat → List UInt8 → List (List UInt8) → Nat → List (List UInt8) × Nat
  | 0, _, _, gs, u => (gs, u)
  | n + 1, i, b, gs, u =>
    if oErr (sec i) ≠ 0 ∨ oMark (sec i) ≠ mark e i ∨ oKind (sec i) ≠ kind b.length then (gs, u)
    else if (b ++ oBody (sec i)).length < need (b ++ oBody (sec i)) ∧ (oBody (sec i)).length = 233 then find e sec n (i + 1) (b ++ oBody (sec i)) gs u
    else if (b ++ oBody (sec i)).length ≠ need (b ++ oBody (sec i)) ∨ recs ((b ++ oBody (sec i)).drop 4) = [] then (gs, u)
    else find e sec n (i + 1) [] (gs ++ [(b ++ oBody (sec i)).drop 4]) (i + 1)

/-- A piece's sector. -/
def laid (e at_ : Nat) (g : List UInt8) (j : Nat) : List UInt8 := sector (mark e (at_ + j)) (kind j) (piece (full g) j)
/-- No piece of that epoch there. -/
def Bad (e i : Nat) (s : List UInt8) : Prop := oErr s ≠ 0 ∨ oMark s ≠ mark e i

set_option maxRecDepth 100000 in
theorem kind_ne (n : Nat) : kind n ≠ 0 := by unfold kind; split <;> decide
set_option maxRecDepth 100000 in
theorem len_full (g : List UInt8) : (full g).length = 4 + g.length := by rw [full, List.length_append, len_fix]
set_option maxRecDepth 100000 in
theorem piece_le (b : List UInt8) (j : Nat) : (piece b j).length ≤ 233 := by unfold piece; rw [List.length_take]; omega
theorem laid_opens {e at_ : Nat} {g : List UInt8} {j : Nat} (he : e ≤ 1000000000) (ha : at_ + j < 10000) :
    oErr (laid e at_ g j) = 0 ∧ oMark (laid e at_ g j) = mark e (at_ + j) ∧ oKind (laid e at_ g j) = kind j ∧ oBody (laid e at_ g j) = piece (full g) j :=
  sector_opens _ _ _ (by unfold mark; omega) (by unfold mark; omega) (kind_ne j) (piece_le _ _)
theorem len_laid (e at_ : Nat) (g : List UInt8) (j : Nat) : (laid e at_ g j).length = 256 := len_sector _ _ _ (piece_le _ _)
theorem find_bad {e : Nat} {sec : Nat → List UInt8} {i : Nat} (h : Bad e i (sec i)) (b : List UInt8) (gs : List (List UInt8)) (u : Nat) : ∀ n, find e sec n i b gs u = (gs, u)
  | 0 => rfl
  | n + 1 => by
    rw [find, if_pos]
    rcases h with h | h
    · exact .inl h
    · exact .inr (.inl h)
set_option maxRecDepth 100000 in
theorem take_full (g : List UInt8) (k : Nat) (h : 4 ≤ k) : ((full g).take k).take 4 = fix g.length 4 := by
  rw [List.take_take, Nat.min_eq_left h, full, List.take_left' (len_fix 4 _)]
set_option maxRecDepth 100000 in
theorem need_full (g : List UInt8) (k : Nat) (h : 4 ≤ k) (hg : g.length < 4294967296) : need ((full g).take k) = 4 + g.length := by
  unfold need
  rw [take_full g k h, fixedR, show clamp 4 = 4 from rfl, takeR_ok rfl (by rw [len_fix]; decide)]
  simp only
  rw [List.take_of_length_le (by rw [len_fix]; exact Nat.le_refl _), unfix_fix, Nat.mod_eq_of_lt (by omega)]
set_option maxRecDepth 100000 in
theorem take_piece (b : List UInt8) (j : Nat) : b.take (233 * j) ++ piece b j = b.take (233 * (j + 1)) := by
  rw [piece, show 233 * (j + 1) = 233 * j + 233 by omega, List.take_add]
set_option maxRecDepth 100000 in
/-- One piece of a group. -/
theorem find_step {e at_ : Nat} {g : List UInt8} {sec : Nat → List UInt8} {j : Nat} (he : e ≤ 1000000000) (hg : g.length < 4294967296) (hr : recs g ≠ []) (hj : j < secs g.length) (ha : at_ + j < 10000) (hs : sec (at_ + j) = laid e at_ g j) (gs : List (List UInt8)) (u c : Nat) :
    find e sec (c + 1) (at_ + j) ((full g).take (233 * j)) gs u = if j + 1 = secs g.length then find e sec c (at_ + j + 1) [] (gs ++ [g]) (at_ + j + 1) else find e sec c (at_ + j + 1) ((full g).take (233 * (j + 1))) gs u := by
  obtain ⟨o1, o2, o3, o4⟩ := laid_opens (g := g) he ha
  have hf := len_full g
  unfold secs at hj ⊢
  have hb : ((full g).take (233 * j)).length = 233 * j := by rw [List.length_take]; omega
  have hp : (piece (full g) j).length = min 233 (4 + g.length - 233 * j) := by rw [piece, List.length_take, List.length_drop, hf]
  rw [find, hs, o1, o2, o3, o4, hb, take_piece, need_full g _ (by omega) hg, List.length_take, hf, hp]
  rw [if_neg (by rw [show kind (233 * j) = kind j by unfold kind; by_cases h : j = 0 <;> simp [h] <;> omega]; simp)]
  by_cases hl : j + 1 = (4 + g.length + 232) / 233
  · rw [if_pos hl, if_neg (by omega)]
    have e1 : (full g).take (233 * (j + 1)) = full g := List.take_of_length_le (by omega)
    have e2 : (full g).drop 4 = g := by rw [full, List.drop_left' (len_fix 4 _)]
    rw [e1, e2, if_neg (by simp only [not_or]; exact ⟨by omega, hr⟩)]
  · rw [if_neg hl, if_pos (by omega)]
/-- A group that is whole. -/
theorem find_whole {e at_ : Nat} {g : List UInt8} {sec : Nat → List UInt8} (he : e ≤ 1000000000) (hg : g.length < 4294967296) (hr : recs g ≠ []) (ha : at_ + secs g.length ≤ 10000) (hs : ∀ j, j < secs g.length → sec (at_ + j) = laid e at_ g j) (gs : List (List UInt8)) (u c : Nat) :
    ∀ d j, j + d + 1 = secs g.length → find e sec (c + d + 1) (at_ + j) ((full g).take (233 * j)) gs u = find e sec c (at_ + secs g.length) [] (gs ++ [g]) (at_ + secs g.length)
  | 0, j, h => by
    rw [show c + 0 + 1 = c + 1 from rfl, find_step he hg hr (by omega) (by omega) (hs j (by omega)), if_pos (by omega), ← h]; rfl
  | d + 1, j, h => by
    rw [show c + (d + 1) + 1 = (c + d + 1) + 1 by omega, find_step he hg hr (by omega) (by omega) (hs j (by omega)), if_neg (by omega)]
    exact find_whole he hg hr ha hs gs u c d (j + 1) (by omega)
/-- A group that is not. -/
theorem find_part {e at_ : Nat} {g : List UInt8} {sec : Nat → List UInt8} {k : Nat} (he : e ≤ 1000000000) (hg : g.length < 4294967296) (hr : recs g ≠ []) (ha : at_ + secs g.length ≤ 10000) (hk : k < secs g.length) (hs : ∀ j, j < k → sec (at_ + j) = laid e at_ g j) (hb : Bad e (at_ + k) (sec (at_ + k))) (gs : List (List UInt8)) (u : Nat) :
    ∀ d j c, j + d = k → find e sec c (at_ + j) ((full g).take (233 * j)) gs u = (gs, u)
  | 0, j, c, h => by
    obtain rfl : j = k := h
    exact find_bad hb _ gs u c
  | d + 1, j, 0, _ => rfl
  | d + 1, j, c + 1, h => by
    rw [find_step he hg hr (by omega) (by omega) (hs j (by omega)), if_neg (by omega)]
    exact find_part he hg hr ha hk hs hb gs u d (j + 1) c (by omega)
set_option maxRecDepth 100000 in
theorem secs_pos (n : Nat) : 0 < secs n := by unfold secs; omega

/-- How many sectors groups have. -/
def usedOf : List (List UInt8) → Nat
  | [] => 0
  | g :: G => secs g.length + usedOf G
theorem usedOf_app : ∀ (a b : List (List UInt8)), usedOf (a ++ b) = usedOf a + usedOf b
  | [], b => by simp [usedOf]
  | r :: a, b => by rw [List.cons_append, usedOf, usedOf, usedOf_app a b]; omega
/-- Groups lie one behind the other. -/
def Lay (e : Nat) (sec : Nat → List UInt8) : Nat → List (List UInt8) → Prop
  | _, [] => True
  | at_, g :: G => (∀ j, j < secs g.length → sec (at_ + j) = laid e at_ g j) ∧ Lay e sec (at_ + secs g.length) G
theorem Lay.app {e : Nat} {sec : Nat → List UInt8} : ∀ {at_ : Nat} {G : List (List UInt8)} {g : List UInt8}, Lay e sec at_ G → (∀ j, j < secs g.length → sec (at_ + usedOf G + j) = laid e (at_ + usedOf G) g j) → Lay e sec at_ (G ++ [g])
  | at_, [], g, _, h => ⟨by simpa [usedOf] using h, trivial⟩
  | at_, x :: G, g, h0, h => ⟨h0.1, Lay.app h0.2 (by rw [usedOf, ← Nat.add_assoc] at h; exact h)⟩
/-- A group may stand. -/
def Good (g : List UInt8) : Prop := g.length < 4294967296 ∧ recs g ≠ []
theorem find_lay {e : Nat} {sec : Nat → List UInt8} (he : e ≤ 1000000000) : ∀ (G : List (List UInt8)) (at_ c : Nat) (gs : List (List UInt8)), (∀ g ∈ G, Good g) → Lay e sec at_ G → at_ + usedOf G ≤ 10000 →
    find e sec (c + usedOf G) at_ [] gs at_ = find e sec c (at_ + usedOf G) [] (gs ++ G) (at_ + usedOf G)
  | [], at_, c, gs, _, _, _ => by simp [usedOf]
  | g :: G, at_, c, gs, h1, h2, h3 => by
    have hp := secs_pos g.length
    rw [usedOf] at h3 ⊢
    have hg := h1 g List.mem_cons_self
    have := find_whole (sec := sec) he hg.1 hg.2 (by omega) h2.1 gs at_ (c + usedOf G) (secs g.length - 1) 0 (by omega)
    rw [show c + usedOf G + (secs g.length - 1) + 1 = c + (secs g.length + usedOf G) by omega, Nat.mul_zero, List.take_zero, Nat.add_zero] at this
    rw [this, find_lay he G (at_ + secs g.length) c (gs ++ [g]) (fun x hx => h1 x (List.mem_cons_of_mem _ hx)) h2.2 (by omega), List.append_assoc, Nat.add_assoc]
    rfl
set_option maxRecDepth 100000 in
/-- Epochs are told by their marks. -/
theorem laid_bad {e f at_ : Nat} {g : List UInt8} {j : Nat} (he : e ≤ 1000000000) (ha : at_ + j < 10000) (hf : f ≠ e) : Bad f (at_ + j) (laid e at_ g j) := by
  refine .inr ?_
  rw [(laid_opens he ha).2.1]
  unfold mark; omega
theorem zeros_bad (e i : Nat) : Bad e i (List.replicate 256 0) := .inl (by rw [noughts_err]; decide)
end W
end Go.Proofs.YtmmgfankbabfbaaDoor
