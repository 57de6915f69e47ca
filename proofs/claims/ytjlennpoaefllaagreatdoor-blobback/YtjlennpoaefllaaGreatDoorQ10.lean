/- Texts put together: CLeaf, Sum, Seal, Parts, Open, Open2, Open3, Burst, Bursts. -/
import Derived.Test.YtjlennpoaefllaaGreatDoorQ09
import Derived.Test.YtjlennpoaefllaaGreatDoorQ06
import Derived.Laws.AppendOwnNone
import Derived.Laws.MakeOwn
import Derived.Lib.SliceRun
import Derived.Deep.RegionHeld3
import Derived.Deep.RegionWith
import Derived.WideShapes
/- The leaves of crc. -/
namespace Go.Proofs.YtjlennpoaefllaaGreatDoor
open Go.RowKit

set_option maxHeartbeats 400000 in
theorem half_any (x : C.V) (w : World) (hT : Tab w) : Calls Tryz.prog 172 #[.int .u32 (N x)] w (Tells (.int .u32 (N (C.Dn 4 x))) w) := by
  have hand := bits_and x 15#32
  rw [show N 15#32 = 15 by decide] at hand
  have hk : (x &&& 15#32).toNat < 16 := by
    rw [BitVec.toNat_and]
    exact Nat.lt_of_le_of_lt Nat.and_le_right (by decide)
  have hh := C.half x
  have hc := hT _ hk
  simp only [N] at hand
  generalize (x &&& 15#32).toNat = k at hand hk hc hh
  have htab : C.tab.getD k 0 < 4294967296 := by
    have : ∀ k : Fin 16, C.tab.getD k.val 0 < 4294967296 := by decide
    exact this ⟨k, hk⟩
  generalize C.tab.getD k 0 = t at hc hh htab
  have HH := hid (And.intro hh htab)
  clear hh htab
  go_enter Tryz.func172, Tryz.ntmps172
  go_wp2
  go_ret
  refine ⟨?_, rfl⟩
  show Ending.returned (.int .u32 (bits .xor .u32 (N x / 16) ((t : Nat) : Int))) = _
  obtain ⟨hh, htab⟩ := HH.out
  rw [N_shr4, ← N_ofNat t htab, bits_xor, hh]
end Go.Proofs.YtjlennpoaefllaaGreatDoor

/- Sum, the reference's Raw and Sum. -/
namespace Go.Proofs.YtjlennpoaefllaaGreatDoor
open Go.RowKit

theorem N_z8 (c : UInt8) : N (C.z8 c) = (c.toNat : Int) := by
  have := c.toNat_lt
  unfold C.z8
  rw [N_ofNat _ (by omega)]
theorem byte32 (c : UInt8) : IntKind.u32.wrap (c.toNat : Int) = (c.toNat : Int) := wrap32 _ (by have := c.toNat_lt; omega)
theorem xor8 (r : C.V) (c : UInt8) : bits .xor .u32 (N r) (c.toNat : Int) = N (r ^^^ C.z8 c) := by rw [← N_z8, bits_xor]
set_option maxRecDepth 100000 in
set_option maxHeartbeats 1000000 in
theorem sum_any (a : Option Addr) (bs : List UInt8) (cap : Nat) (w : World) (hlen : bs.length ≤ 9223372036854775807) (hT : Tab w) (hA : At w a bs) :
    Calls Tryz.prog 156 #[.slice a bs.length cap] w (Tells (.int .u32 (N (C.sum bs))) w) := by
  have HT := hid hT
  have HA := hid hA
  clear hT hA
  go_enter Tryz.func156, Tryz.ntmps156
  go_wp2
  go_loopw [3, 8] (fun x i wr => ∃ k : Nat, k ≤ bs.length ∧ x = .int .u32 (N (C.raw (~~~ 0#32) (bs.take k))) ∧ i = .int .i64 k ∧ wr = w) (fun _ i _ => bs.length - (intOf i).toNat)
  case atStart => exact ⟨0, by omega, by rw [List.take_zero, C.raw_nil]; rfl, rfl, rfl⟩
  case round =>
    obtain ⟨k, hk, rfl, rfl, rfl⟩ := hrel
    by_cases hlt : k < bs.length
    · obtain ⟨c, hc⟩ : ∃ c, bs[k]? = some c := ⟨bs[k], List.getElem?_eq_getElem hlt⟩
      obtain ⟨b, o, rfl, hcell⟩ := HA.out k c hc
      have h32 := byte32 c
      have hx := xor8 (C.raw (~~~ 0#32) (bs.take k)) c
      have HN := hid (show C.Dn 4 (C.Dn 4 (C.raw (~~~ 0#32) (bs.take k) ^^^ C.z8 c)) = C.raw (~~~ 0#32) (bs.take (k + 1)) by rw [take_next hc, C.raw_snoc, C.Dn_add])
      clear hc
      generalize C.raw (~~~ 0#32) (bs.take k) = r at hx HN
      generalize r ^^^ C.z8 c = s at hx HN
      go_wp2_with (go_at_call 172; refine (half_any _ _ HT.out).mono ?_; rintro e _ ⟨rfl, hw⟩; rw [hw]; clear hw)
      go_roundw
      case rel => exact ⟨k + 1, by omega, by rw [← HN.out], by go_num, by first | rfl | trivial⟩
      case measure => simp [intOf]; omega
    · obtain rfl : k = bs.length := by omega
      go_wp2
      go_ret
      refine ⟨?_, rfl⟩
      show Ending.returned (.int .u32 (bits .xor .u32 4294967295 (N (C.raw (4294967295#32) bs)))) = _
      rw [N_not]; rfl

end Go.Proofs.YtjlennpoaefllaaGreatDoor

/- Bytes put behind bytes; Seal and the reference's. -/
namespace Go.Proofs.YtjlennpoaefllaaGreatDoor
open Go.RowKit

/-- A sum's four bytes. -/
def le (s : C.V) : List UInt8 := [UInt8.ofNat s.toNat, UInt8.ofNat (s >>> 8).toNat, UInt8.ofNat (s >>> 16).toNat, UInt8.ofNat (s >>> 24).toNat]
theorem len_le (s : C.V) : (le s).length = 4 := rfl
theorem wrap8 (x : C.V) : IntKind.u8.wrap (N x) = ((UInt8.ofNat x.toNat).toNat : Int) := by
  simp only [IntKind.wrap, IntKind.bits, IntKind.signed, N]
  simp
def sealed (bs : List UInt8) : List UInt8 := bs ++ le (C.sum bs)
theorem len_sealed (bs : List UInt8) : (sealed bs).length = bs.length + 4 := by simp [sealed, len_le]

theorem At.four (w : World) (c0 c1 c2 c3 : UInt8) : At (w.alloc (.cells #[.int .u8 (c0.toNat : Int), .int .u8 (c1.toNat : Int), .int .u8 (c2.toNat : Int), .int .u8 (c3.toNat : Int)] 5)) (some ⟨w.heap.size, 0, none⟩) [c0, c1, c2, c3] := by
  intro j c hj
  refine ⟨_, _, rfl, ?_⟩
  rw [cell_of_row _ _ _ _ _ _ (heap_alloc_new w _)]
  match j, hj with
  | 0, hj => obtain rfl : _ = c := Option.some.inj hj; rfl
  | 1, hj => obtain rfl : _ = c := Option.some.inj hj; rfl
  | 2, hj => obtain rfl : _ = c := Option.some.inj hj; rfl
  | 3, hj => obtain rfl : _ = c := Option.some.inj hj; rfl
  | j + 4, hj => simp at hj
theorem four (s : C.V) : ∃ c0 c1 c2 c3 : UInt8, le s = [c0, c1, c2, c3] ∧ (IntKind.u8.wrap (N s) = (c0.toNat : Int) ∧ IntKind.u8.wrap (N (s >>> 8)) = (c1.toNat : Int) ∧ IntKind.u8.wrap (N (s >>> 16)) = (c2.toNat : Int) ∧ IntKind.u8.wrap (N (s >>> 24)) = (c3.toNat : Int)) ∧
    N s % (256 : Int) = (c0.toNat : Int) ∧ N (s >>> 8) % (256 : Int) = (c1.toNat : Int) ∧ N (s >>> 16) % (256 : Int) = (c2.toNat : Int) ∧ N (s >>> 24) % (256 : Int) = (c3.toNat : Int) :=
  ⟨_, _, _, _, rfl, ⟨wrap8 _, wrap8 _, wrap8 _, wrap8 _⟩, by rw [← wrap8]; rfl, by rw [← wrap8]; rfl, by rw [← wrap8]; rfl, by rw [← wrap8]; rfl⟩

/-- What Seal tells. -/
def PSeal (w : World) (bs : List UInt8) (e : Ending) (w' : World) : Prop := ∃ g cap, e = .returned (.slice (some ⟨g, 0, none⟩) (bs.length + 4) cap) ∧ w.heap.size ≤ g ∧ w'.ownsRow w.heap.size 5 1 (.slice (some ⟨g, 0, none⟩) (bs.length + 4) cap) (bs.length + 4) (S (sealed bs)) ∧ Adds w w'

theorem make_room (n : Nat) (hn : n ≤ 70368744177664) (w : World) : (Instr.makeSlice 43 (.int .i64 0) (.int .i64 ((n : Int) + 4))).run Tryz.prog w = .ok (.slice (some ⟨w.heap.size, 0, none⟩) 0 (n + 4)) (w.alloc (.cells (madeCells #[.int .u8 0] (n + 4)) 5)) := by
  obtain ⟨i0, hi, hz0, hz1, hz2⟩ := info5all
  have := run_make (P := Tryz.prog) w 43 5 i0 (.int .u8 0) Tryz.underlying43 hi hz0 .i64 .i64 0 ((n : Int) + 4) (by decide) (by omega) (by rw [hz2]; omega) (by omega)
  rw [this, hz1]
  have e : ((n : Int) + 4).toNat = n + 4 := by omega
  rw [e, Nat.mul_one]
  rfl

set_option maxRecDepth 100000 in
set_option maxHeartbeats 1000000 in
theorem seal_any (a : Option Addr) (bs : List UInt8) (cap : Nat) (w : World) (hlen : bs.length ≤ 1000000) (hcap : a = none → cap = 0) (hT : Tab w) (hA : At w a bs) : Calls Tryz.prog 142 #[.slice a bs.length cap] w (PSeal w bs) := by
  have hmk := make_room bs.length (by omega)
  have HC := hid hcap
  have HA1 := hid (hA.adds ((Touch.refl _ w).alloc (.cells (madeCells #[.int .u8 0] (bs.length + 4)) 5)))
  have HS := hid (fun w1 (h : Adds w w1) => sum_any a bs cap w1 (by omega) (hT.adds h) (hA.adds h))
  have HO := hid (World.ownsRow_made (base := w.heap.size) (e := 5) (size := 1) w (madeCells #[.int .u8 0] (bs.length + 4)) (bs.length + 4) (Nat.le_refl _) (by unfold maxLen; omega) (by rw [size_madeCells, Nat.mul_one]))
  obtain ⟨c0, c1, c2, c3, hle, ⟨b0, b1, b2, b3⟩, d0, d1, d2, d3⟩ := four (C.sum bs)
  have s1 := N_shr8 (C.sum bs)
  have s2 := N_shr16 (C.sum bs)
  have s3 := N_shr24 (C.sum bs)
  have HL := hid hlen
  have HLE := hid hle
  clear hcap hT hA hle
  go_enter Tryz.func142, Tryz.ntmps142
  go_wp2_with (first
    | (at_builtin; refine append_bytes rfl _ _ rfl w.heap.size (.slice (some ⟨w.heap.size, 0, none⟩) 0 (bs.length + 4)) 0 [] rfl HO.out a bs cap rfl HC.out HA1.out (by have := HL.out; omega) (by simp) ?_; intro v1 w1 hown1 hgrow1 hne1; clear hmk; have hA1 : Adds w w1 := Touch.grown ((Touch.refl _ w).alloc _) hgrow1 (fun k hk hlt => by simp [Value.ownBlock] at hk; omega); have HO1 := hid (And.intro hown1 hne1); have HGZ := hid hgrow1; clear hown1 hgrow1 hne1)
    | (at_builtin; refine append_bytes rfl _ _ rfl w.heap.size v1 (0 + bs.length) ([] ++ S bs) rfl (HO1.out.1.kept (World.grownBy_alloc w1 _ none) (own_none v1)) (some ⟨w1.heap.size, 0, none⟩) [c0, c1, c2, c3] 4 rfl (fun e => by cases e) (At.four w1 c0 c1 c2 c3) (by have := HL.out; simp; omega) (by have := hA1.size; simp; omega) ?_; intro v2 w2 hown2 hgrow2 _)
    | (go_at_call 156; refine (HS.out w1 hA1).mono ?_; rintro e _ ⟨rfl, hw⟩; rw [hw]; clear hw))
  go_ret
  obtain ⟨g, cap2, rfl, hg, _⟩ := Own.some hown2 (by simp)
  have hS : S (sealed bs) = [] ++ S bs ++ S [c0, c1, c2, c3] := by simp [sealed, S, HLE.out]
  have hn : bs.length + 4 = 0 + bs.length + [c0, c1, c2, c3].length := by simp
  refine ⟨g, cap2, by rw [hn]; rfl, hg, by rw [hn, hS]; exact hown2, ?_⟩
  exact Touch.grown (hA1.alloc _) hgrow2 (fun k hk hlt => by have := (HO1.out.1.lt k hk).1; omega)

end Go.Proofs.YtjlennpoaefllaaGreatDoor

/- (The pieces of crc that a page does not ask lie elsewhere.) -/
namespace Go.Proofs.YtjlennpoaefllaaGreatDoor
end Go.Proofs.YtjlennpoaefllaaGreatDoor

/- Clone, Open, and the reference's Open. -/
namespace Go.Proofs.YtjlennpoaefllaaGreatDoor
open Go.RowKit

def unle (c0 c1 c2 c3 : UInt8) : C.V := ((C.z8 c0 ||| C.z8 c1 <<< 8) ||| C.z8 c2 <<< 16) ||| C.z8 c3 <<< 24
theorem unle_le (s : C.V) : unle (UInt8.ofNat s.toNat) (UInt8.ofNat (s >>> 8).toNat) (UInt8.ofNat (s >>> 16).toNat) (UInt8.ofNat (s >>> 24).toNat) = s := by
  have hz : ∀ x : C.V, C.z8 (UInt8.ofNat x.toNat) = x &&& 255#32 := by
    intro x
    apply BitVec.eq_of_toNat_eq
    rw [BitVec.toNat_and]
    simp only [C.z8, BitVec.toNat_ofNat]
    rw [show 255 % 2 ^ 32 = 2 ^ 8 - 1 from rfl, Nat.and_two_pow_sub_one_eq_mod]
    simp
    omega
  unfold unle
  rw [hz, hz, hz, hz]
  apply BitVec.eq_of_getLsbD_eq
  intro i hi
  have h255 : ∀ j, (255#32).getLsbD j = decide (j < 8) := by
    intro j
    by_cases hj : j < 32
    · have : ∀ j : Fin 32, (255#32).getLsbD j.val = decide (j.val < 8) := by decide
      exact this ⟨j, hj⟩
    · rw [BitVec.getLsbD_of_ge _ _ (by omega), decide_eq_false (by omega)]
  simp only [BitVec.getLsbD_or, BitVec.getLsbD_and, BitVec.getLsbD_shiftLeft, BitVec.getLsbD_ushiftRight, h255]
  rw [decide_eq_true hi]
  by_cases h8 : i < 8
  · rw [decide_eq_true h8, decide_eq_true (show i < 16 by omega), decide_eq_true (show i < 24 by omega)]; simp
  · by_cases h16 : i < 16
    · rw [decide_eq_false h8, decide_eq_true h16, decide_eq_true (show i < 24 by omega), decide_eq_true (show i - 8 < 8 by omega), show 8 + (i - 8) = i by omega]; simp
    · by_cases h24 : i < 24
      · rw [decide_eq_false h8, decide_eq_false h16, decide_eq_true h24, decide_eq_false (show ¬ i - 8 < 8 by omega), decide_eq_true (show i - 16 < 8 by omega), show 16 + (i - 16) = i by omega]; simp
      · rw [decide_eq_false h8, decide_eq_false h16, decide_eq_false h24, decide_eq_false (show ¬ i - 8 < 8 by omega), decide_eq_false (show ¬ i - 16 < 8 by omega), decide_eq_true (show i - 24 < 8 by omega), show 24 + (i - 24) = i by omega]; simp
theorem le_unle (c0 c1 c2 c3 : UInt8) : le (unle c0 c1 c2 c3) = [c0, c1, c2, c3] := by
  have hb : ∀ (c : UInt8) (j : Nat), 8 ≤ j → (C.z8 c).getLsbD j = false := by
    intro c j hj
    unfold C.z8
    rw [BitVec.getLsbD_ofNat, Nat.testBit_lt_two_pow (Nat.lt_of_lt_of_le c.toNat_lt (Nat.pow_le_pow_right (by decide) hj))]
    simp
  have key : ∀ (x : C.V) (c : UInt8), (∀ j, j < 8 → x.getLsbD j = (C.z8 c).getLsbD j) → UInt8.ofNat x.toNat = c := by
    intro x c h
    apply UInt8.toNat_inj.1
    apply Nat.eq_of_testBit_eq
    intro j
    have e : (UInt8.ofNat x.toNat).toNat = x.toNat % 2 ^ 8 := by simp
    rw [e, Nat.testBit_mod_two_pow]
    by_cases hj : j < 8
    · rw [decide_eq_true hj, Bool.true_and]
      have := h j hj
      unfold C.z8 at this
      rw [BitVec.getLsbD_ofNat, decide_eq_true (show j < 32 by omega), Bool.true_and] at this
      exact this
    · rw [decide_eq_false hj, Nat.testBit_lt_two_pow (Nat.lt_of_lt_of_le c.toNat_lt (Nat.pow_le_pow_right (by decide) (by omega)))]
      simp
  unfold le
  congr 1
  · apply key
    intro j hj
    unfold unle
    simp only [BitVec.getLsbD_or, BitVec.getLsbD_shiftLeft]
    rw [decide_eq_true (show j < 8 from hj), decide_eq_true (show j < 16 by omega), decide_eq_true (show j < 24 by omega)]; simp
  congr 1
  · apply key
    intro j hj
    unfold unle
    simp only [BitVec.getLsbD_ushiftRight, BitVec.getLsbD_or, BitVec.getLsbD_shiftLeft]
    rw [decide_eq_false (show ¬ 8 + j < 8 by omega), decide_eq_true (show 8 + j < 16 by omega), decide_eq_true (show 8 + j < 24 by omega), decide_eq_true (show 8 + j < 32 by omega), hb c0 _ (by omega), show 8 + j - 8 = j by omega]; simp
  congr 1
  · apply key
    intro j hj
    unfold unle
    simp only [BitVec.getLsbD_ushiftRight, BitVec.getLsbD_or, BitVec.getLsbD_shiftLeft]
    rw [decide_eq_false (show ¬ 16 + j < 8 by omega), decide_eq_false (show ¬ 16 + j < 16 by omega), decide_eq_true (show 16 + j < 24 by omega), decide_eq_true (show 16 + j < 32 by omega), hb c0 _ (by omega), hb c1 _ (by omega), show 16 + j - 16 = j by omega]; simp
  congr 1
  · apply key
    intro j hj
    unfold unle
    simp only [BitVec.getLsbD_ushiftRight, BitVec.getLsbD_or, BitVec.getLsbD_shiftLeft]
    rw [decide_eq_false (show ¬ 24 + j < 8 by omega), decide_eq_false (show ¬ 24 + j < 16 by omega), decide_eq_false (show ¬ 24 + j < 24 by omega), decide_eq_true (show 24 + j < 32 by omega), hb c0 _ (by omega), hb c1 _ (by omega), hb c2 _ (by omega), show 24 + j - 24 = j by omega]; simp
/-- The four bytes are a sum's just if they make it. -/
theorem le_iff (s : C.V) (c0 c1 c2 c3 : UInt8) : le s = [c0, c1, c2, c3] ↔ s = unle c0 c1 c2 c3 := by
  constructor
  · intro h
    have := unle_le s
    unfold le at h
    simp only [List.cons.injEq, and_true] at h
    obtain ⟨h0, h1, h2, h3⟩ := h
    rw [h0, h1, h2, h3] at this
    exact this.symm
  · intro h; rw [h]; exact le_unle c0 c1 c2 c3
end Go.Proofs.YtjlennpoaefllaaGreatDoor

/- Clone and Open. -/
namespace Go.Proofs.YtjlennpoaefllaaGreatDoor
open Go.RowKit

theorem At.owns {w : World} {base n cap : Nat} {a : Option Addr} {bs : List UInt8} (h : w.ownsRow base 5 1 (.slice a n cap) n (S bs)) : At w a bs := by
  rcases h.2 with ⟨e, hn⟩ | ⟨g', cap', cur, e, _⟩
  · have hl := h.1
    rw [length_S, hn] at hl
    obtain rfl : bs = [] := List.eq_nil_of_length_eq_zero (by omega)
    exact At.nil _ _
  · obtain ⟨rfl, rfl⟩ : a = some ⟨g', 0, none⟩ ∧ cap = cap' := by simpa using e
    exact At.own h

/-- What Clone tells. -/
def CPClone (w : World) (bs : List UInt8) (e : Ending) (w' : World) : Prop := ∃ g cap, e = .returned (.slice (some ⟨g, 0, none⟩) bs.length cap) ∧ w.heap.size ≤ g ∧ w'.ownsRow w.heap.size 5 1 (.slice (some ⟨g, 0, none⟩) bs.length cap) bs.length (S bs) ∧ Adds w w'

set_option maxHeartbeats 1000000 in
theorem cclone_any (ad : Addr) (bs : List UInt8) (cap : Nat) (w : World) (hlen : bs.length ≤ 1000000) (hA : At w (some ad) bs) : Calls Tryz.prog 137 #[.slice (some ad) bs.length cap] w (CPClone w bs) := by
  have hq := fun w => Lib.run_eql_slice_nil (P := Tryz.prog) w 43 5 (some ad) bs.length cap 0 0 Tryz.underlying43
  have HA1 := hid (hA.adds ((Touch.refl _ w).alloc (.cells #[] 5)))
  have HO := hid (World.ownsRow_lit (base := w.heap.size) (e := 5) (size := 1) w #[] 0 (Nat.le_refl _) (by decide) rfl)
  have HL := hid hlen
  clear hA hlen
  go_enter Tryz.func137, Tryz.ntmps137
  go_wp2_with (at_builtin; refine append_bytes rfl _ _ rfl w.heap.size (.slice (some ⟨w.heap.size, 0, none⟩) 0 0) 0 [] rfl HO.out (some ad) bs cap rfl (fun e => by cases e) HA1.out (by have := HL.out; omega) (by simp) ?_; intro v1 w1 hown1 hgrow1 hne1)
  go_ret
  have hne : v1 ≠ .slice none 0 0 := by
    rcases hne1 with h | h
    · cases h
    · exact h
  rw [Nat.zero_add, List.nil_append] at hown1
  rcases hown1.2 with ⟨e, _⟩ | ⟨g, cap', cur, rfl, hb, _⟩
  · exact absurd e hne
  · exact ⟨g, cap', rfl, hb, hown1, Touch.grown ((Touch.refl _ w).alloc _) hgrow1 (fun k hk hlt => by simp [Value.ownBlock] at hk; omega)⟩

theorem shl8 (c : UInt8) : (c.toNat : Int) * 256 % 4294967296 = N (C.z8 c <<< 8) := by rw [← N_z8]; exact N_shl (C.z8 c) 8
theorem shl16 (c : UInt8) : (c.toNat : Int) * 65536 % 4294967296 = N (C.z8 c <<< 16) := by rw [← N_z8]; exact N_shl (C.z8 c) 16
theorem shl24 (c : UInt8) : (c.toNat : Int) * 16777216 % 4294967296 = N (C.z8 c <<< 24) := by rw [← N_z8]; exact N_shl (C.z8 c) 24
theorem wrapu (z : Int) : IntKind.u32.wrap z = z % 4294967296 := by simp [IntKind.wrap, IntKind.bits, IntKind.signed]

/-- What Open tells of bytes with four behind them. -/
def PLong (w : World) (body : List UInt8) (c0 c1 c2 c3 : UInt8) (e : Ending) (w' : World) : Prop :=
  (le (C.sum body) = [c0, c1, c2, c3] → ∃ g cap, e = .returned (.tuple #[.slice (some ⟨g, 0, none⟩) body.length cap, .int .i64 0]) ∧ w.heap.size ≤ g ∧ w'.ownsRow w.heap.size 5 1 (.slice (some ⟨g, 0, none⟩) body.length cap) body.length (S body) ∧ Adds w w') ∧
  (le (C.sum body) ≠ [c0, c1, c2, c3] → e = .returned (.tuple #[.slice none 0 0, .int .i64 20]) ∧ Adds w w')

set_option maxRecDepth 100000 in
set_option maxHeartbeats 4000000 in
theorem open_long (b o cap : Nat) (body : List UInt8) (c0 c1 c2 c3 : UInt8) (w : World) (hlen : body.length ≤ 1000000) (hcap : body.length + 4 ≤ cap) (hT : Tab w) (hA : At w (some ⟨b, o, none⟩) (body ++ [c0, c1, c2, c3])) :
    Calls Tryz.prog 147 #[.slice (some ⟨b, o, none⟩) (body.length + 4) cap] w (PLong w body c0 c1 c2 c3) := by
  have hpre : At w (some ⟨b, o, none⟩) body := by have := hA.pre body.length; rwa [List.take_left] at this
  have hsuf : At w (some ⟨b, o + body.length, none⟩) [c0, c1, c2, c3] := by have := hA.suf body.length; rwa [List.drop_left] at this
  have cell : ∀ j c, [c0, c1, c2, c3][j]? = some c → w.cell? ⟨b, o + body.length + j, none⟩ = some (.int .u8 (c.toNat : Int)) := by
    intro j c hj
    obtain ⟨b', o', e, hc⟩ := hsuf j c hj
    obtain ⟨rfl, rfl⟩ : b = b' ∧ o + body.length = o' := by simpa using e
    exact hc
  have e0 : w.cell? ⟨b, o + body.length, none⟩ = some (.int .u8 (c0.toNat : Int)) := cell 0 c0 rfl
  have e1 := cell 1 c1 rfl
  have e2 := cell 2 c2 rfl
  have e3 := cell 3 c3 rfl
  have HE := hid (And.intro e0 (And.intro e1 (And.intro e2 e3)))
  have HS := hid (sum_any (some ⟨b, o, none⟩) body cap w.drew.drew (by omega) hT hpre)
  have HC := hid (cclone_any ⟨b, o, none⟩ body cap w.drew.drew hlen hpre)
  have s1 := run_pre (some ⟨b, o, none⟩) (body.length + 4) cap body.length (by omega)
  have s2 := run_suf (some ⟨b, o, none⟩) (body.length + 4) cap body.length (by omega)
  rw [show sufAt (some ⟨b, o, none⟩) cap body.length = some ⟨b, o + body.length, none⟩ by unfold sufAt; rw [if_neg (by omega)]; simp [Addr.add_mid], show body.length + 4 - body.length = 4 by omega] at s2
  have hiff := le_iff (C.sum body) c0 c1 c2 c3
  have hn : body.length + 4 ≤ 1000004 := by omega
  have y0 := byte32 c0
  have y1 := byte32 c1
  have y2 := byte32 c2
  have y3 := byte32 c3
  have m1 := (wrapu ((c1.toNat : Int) * 256)).trans (shl8 c1)
  have m2 := (wrapu ((c2.toNat : Int) * 65536)).trans (shl16 c2)
  have m3 := (wrapu ((c3.toNat : Int) * 16777216)).trans (shl24 c3)
  have o1 : bits .or .u32 (c0.toNat : Int) (N (C.z8 c1 <<< 8)) = N (C.z8 c0 ||| C.z8 c1 <<< 8) := by rw [← N_z8]; exact bits_or _ _
  have o2 := bits_or (C.z8 c0 ||| C.z8 c1 <<< 8) (C.z8 c2 <<< 16)
  have o3 : bits .or .u32 (N (C.z8 c0 ||| C.z8 c1 <<< 8 ||| C.z8 c2 <<< 16)) (N (C.z8 c3 <<< 24)) = N (unle c0 c1 c2 c3) := bits_or _ _
  generalize C.z8 c0 ||| C.z8 c1 <<< 8 ||| C.z8 c2 <<< 16 = r2 at o2 o3
  generalize C.z8 c0 ||| C.z8 c1 <<< 8 = r1 at o1 o2
  generalize C.z8 c1 <<< 8 = t1 at m1 o1
  generalize C.z8 c2 <<< 16 = t2 at m2 o2
  generalize C.z8 c3 <<< 24 = t3 at m3 o3
  generalize unle c0 c1 c2 c3 = u at o3 hiff
  have HI := hid hiff
  have q1 : IntKind.i64.wrap ((body.length : Int) + 4 - 4) = (body.length : Int) := by rw [IntKind.wrap_i64]; omega
  have q2 : IntKind.i64.wrap (body.length : Int) = (body.length : Int) := by rw [IntKind.wrap_i64]; omega
  clear hiff hsuf hpre cell hA hT e0 e1 e2 e3
  by_cases hsu : C.sum body = u
  · have HY := hid (HI.out.2 hsu)
    rw [hsu] at HS
    clear hsu
    go_enter Tryz.func147, Tryz.ntmps147
    go_wp2
    go_region_held3 (fun _ => True) (trivial) (fail)
    go_wp2
    go_region_held3 (fun w' => w'.cell? ⟨b, o + body.length, none⟩ = some (.int .u8 (c0.toNat : Int)) ∧ w'.cell? ⟨b, o + body.length + 1, none⟩ = some (.int .u8 (c1.toNat : Int)) ∧ w'.cell? ⟨b, o + body.length + 2, none⟩ = some (.int .u8 (c2.toNat : Int)) ∧ w'.cell? ⟨b, o + body.length + 3, none⟩ = some (.int .u8 (c3.toNat : Int))) (exact HE.out) (first | (go_at_call 156; refine HS.out.mono ?_; rintro e _ ⟨rfl, hw⟩; rw [hw]; clear hw))
    go_wp2_with (go_at_call 137; refine HC.out.mono ?_; rintro e w1 ⟨g, cap1, rfl, hg, hown, hA1⟩)
    go_ret2
    refine ⟨fun _ => ⟨g, cap1, rfl, hg, hown, ?_⟩, fun h => absurd HY.out h⟩
    exact (Touch.refl _ w).drew.drew.trans hA1
  · have HY := hid (fun h => hsu (HI.out.1 h))
    have hne : N (C.sum body) ≠ N u := fun h => hsu (N_inj h)
    clear hsu
    go_enter Tryz.func147, Tryz.ntmps147
    go_wp2
    go_region_held3 (fun _ => True) (trivial) (fail)
    go_wp2
    go_region_held3 (fun w' => w'.cell? ⟨b, o + body.length, none⟩ = some (.int .u8 (c0.toNat : Int)) ∧ w'.cell? ⟨b, o + body.length + 1, none⟩ = some (.int .u8 (c1.toNat : Int)) ∧ w'.cell? ⟨b, o + body.length + 2, none⟩ = some (.int .u8 (c2.toNat : Int)) ∧ w'.cell? ⟨b, o + body.length + 3, none⟩ = some (.int .u8 (c3.toNat : Int))) (exact HE.out) (first | (go_at_call 156; refine HS.out.mono ?_; rintro e _ ⟨rfl, hw⟩; rw [hw]; clear hw))
    go_wp2_with (go_at_call 137; refine HC.out.mono ?_; rintro e w1 ⟨g, cap1, rfl, hg, hown, hA1⟩)
    go_ret2
    exact ⟨fun h => absurd h HY.out, fun _ => ⟨rfl, (Touch.refl _ w).drew.drew⟩⟩
end Go.Proofs.YtjlennpoaefllaaGreatDoor

/- Open and the reference's, of whatever bytes. -/
namespace Go.Proofs.YtjlennpoaefllaaGreatDoor
open Go.RowKit

/-- What is opened. -/
def opened (bs : List UInt8) : List UInt8 := if bs.length < 4 then [] else if sealed (bs.take (bs.length - 4)) = bs then bs.take (bs.length - 4) else []
/-- Why not. -/
def openErr (bs : List UInt8) : Int := if bs.length < 4 then 21 else if sealed (bs.take (bs.length - 4)) = bs then 0 else 20

theorem four_of {l : List UInt8} (h : l.length = 4) : ∃ c0 c1 c2 c3, l = [c0, c1, c2, c3] := by
  match l, h with
  | [c0, c1, c2, c3], _ => exact ⟨c0, c1, c2, c3, rfl⟩
theorem cut4 {bs : List UInt8} (h : 4 ≤ bs.length) : ∃ body c0 c1 c2 c3, bs = body ++ [c0, c1, c2, c3] ∧ bs.take (bs.length - 4) = body := by
  obtain ⟨c0, c1, c2, c3, h4⟩ := four_of (l := bs.drop (bs.length - 4)) (by rw [List.length_drop]; omega)
  refine ⟨bs.take (bs.length - 4), c0, c1, c2, c3, ?_, rfl⟩
  rw [← h4, List.take_append_drop]
/-- What Open tells. -/
def POpen (w : World) (bs : List UInt8) (e : Ending) (w' : World) : Prop := ∃ ay cy, e = .returned (.tuple #[.slice ay (opened bs).length cy, .int .i64 (openErr bs)]) ∧ w'.ownsRow w.heap.size 5 1 (.slice ay (opened bs).length cy) (opened bs).length (S (opened bs)) ∧ Adds w w'
set_option maxHeartbeats 1000000 in
theorem open_short (a : Option Addr) (n cap : Nat) (hn : n < 4) (w : World) : Calls Tryz.prog 147 #[.slice a n cap] w fun e w' => e = .returned (.tuple #[.slice none 0 0, .int .i64 21]) ∧ w' = w := by
  go_enter Tryz.func147, Tryz.ntmps147
  go_wp2
  go_ret2
  exact ⟨rfl, rfl⟩
theorem open_any (a : Option Addr) (bs : List UInt8) (cap : Nat) (w : World) (hlen : bs.length ≤ 1000000) (hcap : bs.length ≤ cap) (hT : Tab w) (hA : At w a bs) : Calls Tryz.prog 147 #[.slice a bs.length cap] w (POpen w bs) := by
  by_cases h4 : bs.length < 4
  · refine (open_short a bs.length cap h4 w).mono ?_
    rintro e w' ⟨rfl, rfl⟩
    have e1 : opened bs = [] := by rw [opened, if_pos h4]
    have e2 : openErr bs = 21 := by rw [openErr, if_pos h4]
    refine ⟨none, 0, by rw [e1, e2]; rfl, ?_, Touch.refl _ _⟩
    rw [e1]
    exact World.ownsRow_nil _ _ _ _
  · obtain ⟨b, o, rfl⟩ := hA.ad (by omega)
    obtain ⟨body, c0, c1, c2, c3, hb, ht⟩ := cut4 (show 4 ≤ bs.length by omega)
    have hl : bs.length = body.length + 4 := by rw [hb]; simp
    have hiff : sealed body = bs ↔ le (C.sum body) = [c0, c1, c2, c3] := by rw [hb, sealed, List.append_cancel_left_eq]
    rw [hl]
    rw [hb] at hA
    refine (open_long b o cap body c0 c1 c2 c3 w (by omega) (by omega) hT hA).mono ?_
    rintro e w' ⟨hy, hno⟩
    by_cases hs : sealed body = bs
    · obtain ⟨g, cap1, rfl, hg, hown, hA1⟩ := hy (hiff.1 hs)
      have e1 : opened bs = body := by rw [opened, if_neg h4, ht, if_pos hs]
      have e2 : openErr bs = 0 := by rw [openErr, if_neg h4, ht, if_pos hs]
      exact ⟨some ⟨g, 0, none⟩, cap1, by rw [e1, e2], by rw [e1]; exact hown, hA1⟩
    · obtain ⟨rfl, hA1⟩ := hno (fun h => hs (hiff.2 h))
      have e1 : opened bs = [] := by rw [opened, if_neg h4, ht, if_neg hs]
      have e2 : openErr bs = 20 := by rw [openErr, if_neg h4, ht, if_neg hs]
      refine ⟨none, 0, by rw [e1, e2]; rfl, ?_, hA1⟩
      rw [e1]
      exact World.ownsRow_nil _ _ _ _

end Go.Proofs.YtjlennpoaefllaaGreatDoor

/- Bits turned within 32 bits running: what that does to the bits behind bytes. -/
namespace Go.Proofs.YtjlennpoaefllaaGreatDoor

set_option maxRecDepth 100000 in
/-- k places up and k down. -/
theorem Dn_up (k : Nat) : ∀ x : C.V, k ≤ 32 → (∀ j, 32 - k ≤ j → x.getLsbD j = false) → C.Dn k (x <<< k) = x := by
  induction k with
  | zero => intro x _ _; simp [C.Dn]
  | succ k ih =>
    intro x hk h
    have e : C.D (x <<< (k + 1)) = x <<< k := by
      rw [C.D_even _ (by rw [BitVec.getLsbD_shiftLeft]; simp)]
      apply BitVec.eq_of_getLsbD_eq
      intro i hi
      simp only [BitVec.getLsbD_ushiftRight, BitVec.getLsbD_shiftLeft]
      by_cases h1 : i < k
      · rw [decide_eq_true (show 1 + i < k + 1 by omega), decide_eq_true h1]; simp
      · rw [decide_eq_false (show ¬ 1 + i < k + 1 by omega), decide_eq_false h1, show 1 + i - (k + 1) = i - k by omega, decide_eq_true hi]
        by_cases h2 : 1 + i < 32
        · rw [decide_eq_true h2]
        · rw [h (i - k) (by omega)]; simp
    show C.Dn k (C.D (x <<< (k + 1))) = x
    rw [e]
    exact ih x (by omega) (fun j hj => h j (by omega))

set_option maxRecDepth 100000 in
theorem z8_high (c : UInt8) (j : Nat) (hj : 8 ≤ j) : (C.z8 c).getLsbD j = false := by
  unfold C.z8
  rw [BitVec.getLsbD_ofNat, Nat.testBit_lt_two_pow (Nat.lt_of_lt_of_le c.toNat_lt (Nat.pow_le_pow_right (by decide) hj))]
  simp
set_option maxRecDepth 100000 in
theorem unle_xor (c0 c1 c2 c3 : UInt8) : unle c0 c1 c2 c3 = C.z8 c0 ^^^ (C.z8 c1 <<< 8) ^^^ (C.z8 c2 <<< 16) ^^^ (C.z8 c3 <<< 24) := by
  unfold unle
  apply BitVec.eq_of_getLsbD_eq
  intro i hi
  simp only [BitVec.getLsbD_or, BitVec.getLsbD_xor, BitVec.getLsbD_shiftLeft]
  rw [decide_eq_true hi]
  by_cases h8 : i < 8
  · rw [decide_eq_true h8, decide_eq_true (show i < 16 by omega), decide_eq_true (show i < 24 by omega)]; simp
  · rw [z8_high c0 i (by omega), decide_eq_false h8]
    by_cases h16 : i < 16
    · rw [decide_eq_true h16, decide_eq_true (show i < 24 by omega)]; simp
    · rw [z8_high c1 (i - 8) (by omega), decide_eq_false h16]
      by_cases h24 : i < 24
      · rw [decide_eq_true h24]; simp
      · rw [z8_high c2 (i - 16) (by omega), decide_eq_false h24]; simp
set_option maxRecDepth 100000 in
/-- Four bytes at once. -/
theorem raw_four (h : C.V) (c0 c1 c2 c3 : UInt8) : C.raw h [c0, c1, c2, c3] = C.Dn 32 (h ^^^ unle c0 c1 c2 c3) := by
  have u1 : C.Dn 24 (C.z8 c1) = C.Dn 32 (C.z8 c1 <<< 8) := by
    have h0 := C.Dn_add 8 24 (C.z8 c1 <<< 8)
    rw [Dn_up 8 _ (by decide) (fun j hj => z8_high _ _ (by omega))] at h0
    exact h0
  have u2 : C.Dn 16 (C.z8 c2) = C.Dn 32 (C.z8 c2 <<< 16) := by
    have h0 := C.Dn_add 16 16 (C.z8 c2 <<< 16)
    rw [Dn_up 16 _ (by decide) (fun j hj => z8_high _ _ (by omega))] at h0
    exact h0
  have u3 : C.Dn 8 (C.z8 c3) = C.Dn 32 (C.z8 c3 <<< 24) := by
    have h0 := C.Dn_add 24 8 (C.z8 c3 <<< 24)
    rw [Dn_up 24 _ (by decide) (fun j hj => z8_high _ _ (by omega))] at h0
    exact h0
  show C.Dn 8 (C.Dn 8 (C.Dn 8 (C.Dn 8 (h ^^^ C.z8 c0) ^^^ C.z8 c1) ^^^ C.z8 c2) ^^^ C.z8 c3) = _
  rw [unle_xor]
  simp only [C.Dn_xor, C.Dn_add]
  rw [show C.Dn (8 + 8) (C.z8 c2) = C.Dn 16 (C.z8 c2) from rfl, show C.Dn (8 + 8 + 8) (C.z8 c1) = C.Dn 24 (C.z8 c1) from rfl, show C.Dn (8 + 8 + 8 + 8) (C.z8 c0) = C.Dn 32 (C.z8 c0) from rfl, show C.Dn (8 + 8 + 8 + 8) h = C.Dn 32 h from rfl, u1, u2, u3]
  ac_rfl
set_option maxRecDepth 100000 in
/-- What is sealed leaves one rest. -/
theorem raw_sealed (bs : List UInt8) : C.raw (~~~ 0#32) (sealed bs) = C.Dn 32 (~~~ 0#32) := by
  unfold sealed
  rw [C.raw_app]
  show C.raw _ [_, _, _, _] = _
  rw [raw_four, unle_le]
  unfold C.sum
  congr 1
  rw [BitVec.xor_comm, C.not_xor (C.raw _ bs), BitVec.xor_assoc, BitVec.xor_comm (~~~ 0#32), ← BitVec.xor_assoc]
  simp

set_option maxRecDepth 100000 in
theorem Dn_two (j : Nat) (h : j < 32) : C.Dn j (BitVec.twoPow 32 j) = 1#32 := by
  have : ∀ k : Fin 32, C.Dn k.val (BitVec.twoPow 32 k.val) = 1#32 := by decide +kernel
  exact this ⟨j, h⟩
set_option maxRecDepth 100000 in
theorem Dn_two' (m j : Nat) (h : j < 32) (hm : j ≤ m) : C.Dn m (BitVec.twoPow 32 j) = C.Dn (m - j) 1#32 := by
  conv => lhs; rw [show m = j + (m - j) by omega]
  rw [← C.Dn_add, Dn_two j h]

/-- Bit t turned. -/
def flip (cs : List UInt8) (t : Nat) : List UInt8 := cs.modify (t / 8) (fun c => c ^^^ UInt8.ofNat (2 ^ (t % 8)))
set_option maxRecDepth 100000 in
theorem len_flip (cs : List UInt8) (t : Nat) : (flip cs t).length = cs.length := by simp [flip]
set_option maxRecDepth 100000 in
theorem z8_bit (j : Nat) (h : j < 8) : C.z8 (UInt8.ofNat (2 ^ j)) = BitVec.twoPow 32 j := by
  have : ∀ k : Fin 8, C.z8 (UInt8.ofNat (2 ^ k.val)) = BitVec.twoPow 32 k.val := by decide +kernel
  exact this ⟨j, h⟩
set_option maxRecDepth 100000 in
theorem z8_xor (a b : UInt8) : C.z8 (a ^^^ b) = C.z8 a ^^^ C.z8 b := by
  apply BitVec.eq_of_toNat_eq
  unfold C.z8
  rw [BitVec.toNat_xor]
  have ha := a.toNat_lt
  have hb := b.toNat_lt
  have hx := (a ^^^ b).toNat_lt
  simp only [BitVec.toNat_ofNat]
  rw [Nat.mod_eq_of_lt (by omega), Nat.mod_eq_of_lt (by omega), Nat.mod_eq_of_lt (by omega), UInt8.toNat_xor]
set_option maxRecDepth 100000 in
theorem raw_flip (h : C.V) (cs : List UInt8) (t : Nat) (ht : t < 8 * cs.length) : C.raw h (flip cs t) = C.raw h cs ^^^ C.Dn (8 * cs.length - t) 1#32 := by
  have hi : t / 8 < cs.length := by omega
  have e1 : cs = cs.take (t / 8) ++ cs[t / 8] :: cs.drop (t / 8 + 1) := by
    rw [← List.drop_eq_getElem_cons hi, List.take_append_drop]
  have e2 : flip cs t = cs.take (t / 8) ++ (cs[t / 8] ^^^ UInt8.ofNat (2 ^ (t % 8))) :: cs.drop (t / 8 + 1) := by
    unfold flip
    rw [List.modify_eq_take_cons_drop hi]
  have hl : (cs.drop (t / 8 + 1)).length = cs.length - (t / 8 + 1) := List.length_drop
  rw [e2]
  conv => rhs; lhs; rw [e1]
  rw [C.raw_app, C.raw_app]
  generalize C.raw h (cs.take (t / 8)) = r
  generalize cs[t / 8] = c
  show C.raw (C.Dn 8 (r ^^^ C.z8 (c ^^^ _))) _ = C.raw (C.Dn 8 (r ^^^ C.z8 c)) _ ^^^ _
  rw [z8_xor, z8_bit _ (by omega), ← BitVec.xor_assoc, C.Dn_xor, C.raw_xor, C.Dn_add, hl, Dn_two' _ _ (by omega) (by omega)]
  congr 2
  omega

/-- The lowest i bits. -/
def lowb (b : C.V) : Nat → C.V
  | 0 => 0#32
  | i + 1 => lowb b i ^^^ (if b.getLsbD i then BitVec.twoPow 32 i else 0#32)
set_option maxRecDepth 100000 in
theorem lowb_bit (b : C.V) (i : Nat) : ∀ j, j < 32 → (lowb b i).getLsbD j = (decide (j < i) && b.getLsbD j) := by
  induction i with
  | zero => intro j _; simp [lowb]
  | succ i ih =>
    intro j hj
    simp only [lowb]
    rw [BitVec.getLsbD_xor, ih j hj]
    by_cases h : j = i
    · subst h
      rw [decide_eq_false (by omega), decide_eq_true (by omega)]
      cases hb : b.getLsbD j
      · simp
      · simp [hj]
    · have e : (if b.getLsbD i then BitVec.twoPow 32 i else 0#32).getLsbD j = false := by
        split
        · rw [BitVec.getLsbD_twoPow]; simp; omega
        · simp
      rw [e]
      by_cases h1 : j < i
      · rw [decide_eq_true h1, decide_eq_true (by omega)]; simp
      · rw [decide_eq_false h1, decide_eq_false (by omega)]; simp
set_option maxRecDepth 100000 in
theorem lowb_ne (b : C.V) (i j : Nat) (hj : j < 32) (hi : j < i) (h : b.getLsbD j = true) : lowb b i ≠ 0#32 := by
  intro e
  have := lowb_bit b i j hj
  rw [e, decide_eq_true hi, h] at this
  simp at this
/-- What has been turned so far. -/
structure Burst (bs cs : List UInt8) (bits : C.V) (k i : Nat) (t : Bool) : Prop where
  len : cs.length = bs.length + 4
  sum : C.raw (~~~ 0#32) cs = C.raw (~~~ 0#32) (sealed bs) ^^^ C.Dn (8 * (bs.length + 4) - k) (lowb bits i)
  same : t = false → cs = sealed bs
  some : t = true → lowb bits i ≠ 0#32
set_option maxRecDepth 100000 in
theorem lowb_skip (b : C.V) (i : Nat) (h : b.getLsbD i = false) : lowb b (i + 1) = lowb b i := by simp [lowb, h]
set_option maxRecDepth 100000 in
theorem Burst.skip {bs cs : List UInt8} {bits : C.V} {k i : Nat} {t : Bool} (h : Burst bs cs bits k i t) (hb : bits.getLsbD i = false) : Burst bs cs bits k (i + 1) t := by
  have e := lowb_skip bits i hb
  exact ⟨h.len, by rw [e]; exact h.sum, h.same, by rw [e]; exact h.some⟩
set_option maxRecDepth 100000 in
theorem Burst.turn {bs cs : List UInt8} {bits : C.V} {k i : Nat} {t : Bool} (h : Burst bs cs bits k i t) (hi : i < 32) (hb : bits.getLsbD i = true) (hk : k + i < 8 * (bs.length + 4)) : Burst bs (flip cs (k + i)) bits k (i + 1) true := by
  refine ⟨by rw [len_flip]; exact h.len, ?_, (fun e => by cases e), fun _ => lowb_ne bits (i + 1) i hi (by omega) hb⟩
  rw [raw_flip _ _ _ (by rw [h.len]; exact hk), h.sum, h.len]
  have e : lowb bits (i + 1) = lowb bits i ^^^ BitVec.twoPow 32 i := by simp [lowb, hb]
  rw [e, C.Dn_xor, Dn_two' _ _ hi (by omega), show 8 * (bs.length + 4) - k - i = 8 * (bs.length + 4) - (k + i) by omega]
  ac_rfl
set_option maxRecDepth 100000 in
/-- Turned bits are found. -/
theorem Burst.found {bs cs : List UInt8} {bits : C.V} {k i : Nat} (h : Burst bs cs bits k i true) : sealed (cs.take (cs.length - 4)) ≠ cs := by
  intro e
  have h1 := raw_sealed (cs.take (cs.length - 4))
  rw [e, h.sum, raw_sealed] at h1
  have h2 : C.Dn (8 * (bs.length + 4) - k) (lowb bits i) = 0#32 := by
    have := congrArg (fun x => C.Dn 32 (~~~ 0#32) ^^^ x) h1
    simpa [← BitVec.xor_assoc] using this
  exact h.some rfl (C.Dn_inj0 _ h2)
end Go.Proofs.YtjlennpoaefllaaGreatDoor

/- The walk of CrcBursts. -/
namespace Go.Proofs.YtjlennpoaefllaaGreatDoor
open Go.RowKit

/-- A row that begins with these bytes. -/
def RowB (w : World) (g : Nat) (cs : List UInt8) : Prop := ∃ cur, w.heap[g]? = some (.cells cur 5 (0, 0)) ∧ ∀ (j : Nat) (c : UInt8), cs[j]? = some c → cur[j]? = some (.int .u8 (c.toNat : Int))
set_option maxRecDepth 100000 in
theorem RowB.at {w : World} {g : Nat} {cs : List UInt8} (h : RowB w g cs) : At w (some ⟨g, 0, none⟩) cs := by
  obtain ⟨cur, hc, hz⟩ := h
  exact fun j c hj => ⟨g, 0, rfl, by rw [cell_of_row w g _ cur 5 _ hc, Nat.zero_add]; exact hz j c hj⟩
set_option maxRecDepth 100000 in
theorem RowB.cell {w : World} {g : Nat} {cs : List UInt8} (h : RowB w g cs) {q : Nat} {c : UInt8} (hq : cs[q]? = some c) : w.cell? ⟨g, q, none⟩ = some (.int .u8 (c.toNat : Int)) ∧ w.frozen? ⟨g, q, none⟩ = false := by
  obtain ⟨cur, hc, hz⟩ := h
  exact ⟨by rw [cell_of_row w g q cur 5 _ hc]; exact hz q c hq, frozen_of_row w g q cur 5 hc⟩
set_option maxRecDepth 100000 in
theorem RowB.set {w : World} {g : Nat} {cs : List UInt8} (h : RowB w g cs) (q : Nat) (v : UInt8) (hq : q < cs.length) : RowB (w.setCell ⟨g, q, none⟩ (.int .u8 (v.toNat : Int))) g (cs.set q v) := by
  obtain ⟨cur, hc, hz⟩ := h
  refine ⟨_, heap_setCell_same w g q cur 5 _ hc, fun j c hj => ?_⟩
  rw [List.getElem?_set] at hj
  rw [Array.getElem?_setIfInBounds]
  have hs : q < cur.size := (Array.getElem?_eq_some_iff.1 (hz q cs[q] (List.getElem?_eq_getElem hq))).1
  by_cases e : q = j
  · subst e
    rw [if_pos rfl, if_pos hq] at hj
    obtain rfl : v = c := by simpa using hj
    rw [if_pos rfl, if_pos hs]
  · rw [if_neg e] at hj
    rw [if_neg e]
    exact hz j c hj
namespace Bts
end Bts
end Go.Proofs.YtjlennpoaefllaaGreatDoor
