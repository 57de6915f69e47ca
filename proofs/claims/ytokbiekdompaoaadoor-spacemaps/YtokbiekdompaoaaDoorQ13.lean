/- Texts put together: CLeaf, Sum, Seal, Parts, Open, Open2, Open3. -/
import Derived.Test.YtokbiekdompaoaaDoorQ12
import Derived.Test.YtokbiekdompaoaaDoorQ06
import Derived.Laws.AppendOwnNone
import Derived.Laws.MakeOwn
import Derived.Lib.SliceRun
import Derived.Deep.RegionHeld3
import Derived.Deep.RegionWith
import Derived.WideShapes
/- The leaves of crc. -/
namespace Go.Proofs.YtokbiekdompaoaaDoor
open Go.RowKit

theorem low_and (x : C.V) : x &&& 1#32 = if x.getLsbD 0 then 1#32 else 0#32 := by
  apply BitVec.eq_of_getLsbD_eq
  intro i hi
  cases i with
  | zero => rw [BitVec.getLsbD_and]; cases h : x.getLsbD 0 <;> simp
  | succ i => 
    rw [BitVec.getLsbD_and, show (1#32).getLsbD (i + 1) = false by simp]
    split <;> simp
theorem D_and (x : C.V) : (x >>> 1) ^^^ (3988292384#32 &&& -(x &&& 1#32)) = C.D x := by
  unfold C.D
  rw [low_and]
  cases x.getLsbD 0 <;> simp
  · rfl
theorem low_mod (x : C.V) : N x % (2 : Int) = if x.getLsbD 0 then 1 else 0 := by
  simp only [N]
  rw [BitVec.getLsbD, Nat.testBit_zero]
  by_cases h : x.toNat % 2 = 1
  · simp [h]; omega
  · simp [h]; omega
set_option maxHeartbeats 400000 in
theorem half_any (x : C.V) (w : World) (hT : Tab w) : Calls Tryd.prog 103 #[.int .u32 (N x)] w (Tells (.int .u32 (N (C.Dn 4 x))) w) := by
  have hand := bits_and x 15#32
  rw [show N 15#32 = 15 by decide] at hand
  have hk : (x &&& 15#32).toNat < 16 := by
    rw [BitVec.toNat_and]
    exact Nat.lt_of_le_of_lt Nat.and_le_right (by decide)
  have hh := C.half x
  have hc := hT _ hk
  simp only [N] at hand
  generalize (x &&& 15#32).toNat = k at hand hk hc hh
  have htab : C.tab.getD k 0 < 4294967296 := by
    have : ∀ k : Fin 16, C.tab.getD k.val 0 < 4294967296 := by decide
    exact this ⟨k, hk⟩
  generalize C.tab.getD k 0 = t at hc hh htab
  have HH := hid (And.intro hh htab)
  clear hh htab
  go_enter Tryd.func103, Tryd.ntmps103
  go_wp2
  go_ret
  refine ⟨?_, rfl⟩
  show Ending.returned (.int .u32 (bits .xor .u32 (N x / 16) ((t : Nat) : Int))) = _
  obtain ⟨hh, htab⟩ := HH.out
  rw [N_shr4, ← N_ofNat t htab, bits_xor, hh]
end Go.Proofs.YtokbiekdompaoaaDoor

/- Sum, the reference's Raw and Sum. -/
namespace Go.Proofs.YtokbiekdompaoaaDoor
open Go.RowKit

theorem N_z8 (c : UInt8) : N (C.z8 c) = (c.toNat : Int) := by
  have := c.toNat_lt
  unfold C.z8
  rw [N_ofNat _ (by omega)]
theorem byte32 (c : UInt8) : IntKind.u32.wrap (c.toNat : Int) = (c.toNat : Int) := wrap32 _ (by have := c.toNat_lt; omega)
theorem xor8 (r : C.V) (c : UInt8) : bits .xor .u32 (N r) (c.toNat : Int) = N (r ^^^ C.z8 c) := by rw [← N_z8, bits_xor]
set_option maxRecDepth 100000 in
set_option maxHeartbeats 1000000 in
theorem sum_any (a : Option Addr) (bs : List UInt8) (cap : Nat) (w : World) (hlen : bs.length ≤ 9223372036854775807) (hT : Tab w) (hA : At w a bs) :
    Calls Tryd.prog 93 #[.slice a bs.length cap] w (Tells (.int .u32 (N (C.sum bs))) w) := by
  have HT := hid hT
  have HA := hid hA
  clear hT hA
  go_enter Tryd.func93, Tryd.ntmps93
  go_wp2
  go_loopw [3, 8] (fun x i wr => ∃ k : Nat, k ≤ bs.length ∧ x = .int .u32 (N (C.raw (~~~ 0#32) (bs.take k))) ∧ i = .int .i64 k ∧ wr = w) (fun _ i _ => bs.length - (intOf i).toNat)
  case atStart => exact ⟨0, by omega, by rw [List.take_zero, C.raw_nil]; rfl, rfl, rfl⟩
  case round =>
    obtain ⟨k, hk, rfl, rfl, rfl⟩ := hrel
    by_cases hlt : k < bs.length
    · obtain ⟨c, hc⟩ : ∃ c, bs[k]? = some c := ⟨bs[k], List.getElem?_eq_getElem hlt⟩
      obtain ⟨b, o, rfl, hcell⟩ := HA.out k c hc
      have h32 := byte32 c
      have hx := xor8 (C.raw (~~~ 0#32) (bs.take k)) c
      have HN := hid (show C.Dn 4 (C.Dn 4 (C.raw (~~~ 0#32) (bs.take k) ^^^ C.z8 c)) = C.raw (~~~ 0#32) (bs.take (k + 1)) by rw [take_next hc, C.raw_snoc, C.Dn_add])
      clear hc
      generalize C.raw (~~~ 0#32) (bs.take k) = r at hx HN
      generalize r ^^^ C.z8 c = s at hx HN
      go_wp2_with (go_at_call 103; refine (half_any _ _ HT.out).mono ?_; rintro e _ ⟨rfl, hw⟩; rw [hw]; clear hw)
      go_roundw
      case rel => exact ⟨k + 1, by omega, by rw [← HN.out], by go_num, by first | rfl | trivial⟩
      case measure => simp [intOf]; omega
    · obtain rfl : k = bs.length := by omega
      go_wp2
      go_ret
      refine ⟨?_, rfl⟩
      show Ending.returned (.int .u32 (bits .xor .u32 4294967295 (N (C.raw (4294967295#32) bs)))) = _
      rw [N_not]; rfl

end Go.Proofs.YtokbiekdompaoaaDoor

/- Bytes put behind bytes; Seal and the reference's. -/
namespace Go.Proofs.YtokbiekdompaoaaDoor
open Go.RowKit

/-- A sum's four bytes. -/
def le (s : C.V) : List UInt8 := [UInt8.ofNat s.toNat, UInt8.ofNat (s >>> 8).toNat, UInt8.ofNat (s >>> 16).toNat, UInt8.ofNat (s >>> 24).toNat]
theorem len_le (s : C.V) : (le s).length = 4 := rfl
theorem wrap8 (x : C.V) : IntKind.u8.wrap (N x) = ((UInt8.ofNat x.toNat).toNat : Int) := by
  simp only [IntKind.wrap, IntKind.bits, IntKind.signed, N]
  simp
theorem wrap_byte (c : UInt8) : IntKind.u8.wrap (c.toNat : Int) = (c.toNat : Int) := by
  have := c.toNat_lt
  simp only [IntKind.wrap, IntKind.bits, IntKind.signed]
  simp
  omega
def sealed (bs : List UInt8) : List UInt8 := bs ++ le (C.sum bs)
theorem len_sealed (bs : List UInt8) : (sealed bs).length = bs.length + 4 := by simp [sealed, len_le]

theorem At.four (w : World) (c0 c1 c2 c3 : UInt8) : At (w.alloc (.cells #[.int .u8 (c0.toNat : Int), .int .u8 (c1.toNat : Int), .int .u8 (c2.toNat : Int), .int .u8 (c3.toNat : Int)] 5)) (some ⟨w.heap.size, 0, none⟩) [c0, c1, c2, c3] := by
  intro j c hj
  refine ⟨_, _, rfl, ?_⟩
  rw [cell_of_row _ _ _ _ _ _ (heap_alloc_new w _)]
  match j, hj with
  | 0, hj => obtain rfl : _ = c := Option.some.inj hj; rfl
  | 1, hj => obtain rfl : _ = c := Option.some.inj hj; rfl
  | 2, hj => obtain rfl : _ = c := Option.some.inj hj; rfl
  | 3, hj => obtain rfl : _ = c := Option.some.inj hj; rfl
  | j + 4, hj => simp at hj
theorem four (s : C.V) : ∃ c0 c1 c2 c3 : UInt8, le s = [c0, c1, c2, c3] ∧ (IntKind.u8.wrap (N s) = (c0.toNat : Int) ∧ IntKind.u8.wrap (N (s >>> 8)) = (c1.toNat : Int) ∧ IntKind.u8.wrap (N (s >>> 16)) = (c2.toNat : Int) ∧ IntKind.u8.wrap (N (s >>> 24)) = (c3.toNat : Int)) ∧
    N s % (256 : Int) = (c0.toNat : Int) ∧ N (s >>> 8) % (256 : Int) = (c1.toNat : Int) ∧ N (s >>> 16) % (256 : Int) = (c2.toNat : Int) ∧ N (s >>> 24) % (256 : Int) = (c3.toNat : Int) :=
  ⟨_, _, _, _, rfl, ⟨wrap8 _, wrap8 _, wrap8 _, wrap8 _⟩, by rw [← wrap8]; rfl, by rw [← wrap8]; rfl, by rw [← wrap8]; rfl, by rw [← wrap8]; rfl⟩

/-- What Seal tells. -/
def PSeal (w : World) (bs : List UInt8) (e : Ending) (w' : World) : Prop := ∃ g cap, e = .returned (.slice (some ⟨g, 0, none⟩) (bs.length + 4) cap) ∧ w.heap.size ≤ g ∧ w'.ownsRow w.heap.size 5 1 (.slice (some ⟨g, 0, none⟩) (bs.length + 4) cap) (bs.length + 4) (S (sealed bs)) ∧ Adds w w'

theorem make_room (n : Nat) (hn : n ≤ 70368744177664) (w : World) : (Instr.makeSlice 55 (.int .i64 0) (.int .i64 ((n : Int) + 4))).run Tryd.prog w = .ok (.slice (some ⟨w.heap.size, 0, none⟩) 0 (n + 4)) (w.alloc (.cells (madeCells #[.int .u8 0] (n + 4)) 5)) := by
  obtain ⟨i0, hi, hz0, hz1, hz2⟩ := info5all
  have := run_make (P := Tryd.prog) w 55 5 i0 (.int .u8 0) Tryd.underlying55 hi hz0 .i64 .i64 0 ((n : Int) + 4) (by decide) (by omega) (by rw [hz2]; omega) (by omega)
  rw [this, hz1]
  have e : ((n : Int) + 4).toNat = n + 4 := by omega
  rw [e, Nat.mul_one]
  rfl

set_option maxRecDepth 100000 in
set_option maxHeartbeats 1000000 in
theorem seal_any (a : Option Addr) (bs : List UInt8) (cap : Nat) (w : World) (hlen : bs.length ≤ 1000000) (hcap : a = none → cap = 0) (hT : Tab w) (hA : At w a bs) : Calls Tryd.prog 73 #[.slice a bs.length cap] w (PSeal w bs) := by
  have hmk := make_room bs.length (by omega)
  have HC := hid hcap
  have HA1 := hid (hA.adds ((Touch.refl _ w).alloc (.cells (madeCells #[.int .u8 0] (bs.length + 4)) 5)))
  have HS := hid (fun w1 (h : Adds w w1) => sum_any a bs cap w1 (by omega) (hT.adds h) (hA.adds h))
  have HO := hid (World.ownsRow_made (base := w.heap.size) (e := 5) (size := 1) w (madeCells #[.int .u8 0] (bs.length + 4)) (bs.length + 4) (Nat.le_refl _) (by unfold maxLen; omega) (by rw [size_madeCells, Nat.mul_one]))
  obtain ⟨c0, c1, c2, c3, hle, ⟨b0, b1, b2, b3⟩, d0, d1, d2, d3⟩ := four (C.sum bs)
  have s1 := N_shr8 (C.sum bs)
  have s2 := N_shr16 (C.sum bs)
  have s3 := N_shr24 (C.sum bs)
  have HL := hid hlen
  have HLE := hid hle
  clear hcap hT hA hle
  go_enter Tryd.func73, Tryd.ntmps73
  go_wp2_with (first
    | (at_builtin; refine append_bytes rfl _ _ rfl w.heap.size (.slice (some ⟨w.heap.size, 0, none⟩) 0 (bs.length + 4)) 0 [] rfl HO.out a bs cap rfl HC.out HA1.out (by have := HL.out; omega) (by simp) ?_; intro v1 w1 hown1 hgrow1 hne1; clear hmk; have hA1 : Adds w w1 := Touch.grown ((Touch.refl _ w).alloc _) hgrow1 (fun k hk hlt => by simp [Value.ownBlock] at hk; omega); have HO1 := hid (And.intro hown1 hne1); have HGZ := hid hgrow1; clear hown1 hgrow1 hne1)
    | (at_builtin; refine append_bytes rfl _ _ rfl w.heap.size v1 (0 + bs.length) ([] ++ S bs) rfl (HO1.out.1.kept (World.grownBy_alloc w1 _ none) (own_none v1)) (some ⟨w1.heap.size, 0, none⟩) [c0, c1, c2, c3] 4 rfl (fun e => by cases e) (At.four w1 c0 c1 c2 c3) (by have := HL.out; simp; omega) (by have := hA1.size; simp; omega) ?_; intro v2 w2 hown2 hgrow2 _)
    | (go_at_call 93; refine (HS.out w1 hA1).mono ?_; rintro e _ ⟨rfl, hw⟩; rw [hw]; clear hw))
  go_ret
  obtain ⟨g, cap2, rfl, hg, _⟩ := Own.some hown2 (by simp)
  have hS : S (sealed bs) = [] ++ S bs ++ S [c0, c1, c2, c3] := by simp [sealed, S, HLE.out]
  have hn : bs.length + 4 = 0 + bs.length + [c0, c1, c2, c3].length := by simp
  refine ⟨g, cap2, by rw [hn]; rfl, hg, by rw [hn, hS]; exact hown2, ?_⟩
  exact Touch.grown (hA1.alloc _) hgrow2 (fun k hk hlt => by have := (HO1.out.1.lt k hk).1; omega)

end Go.Proofs.YtokbiekdompaoaaDoor

/- (The pieces of crc that a page does not ask lie elsewhere.) -/
namespace Go.Proofs.YtokbiekdompaoaaDoor
end Go.Proofs.YtokbiekdompaoaaDoor

/- Clone, Open, and the reference's Open. -/
namespace Go.Proofs.YtokbiekdompaoaaDoor
open Go.RowKit

/-- Bytes, of four behind others. -/
def tail4 (s : C.V) (c0 c1 c2 c3 : UInt8) : Prop := le s = [c0, c1, c2, c3]
def unle (c0 c1 c2 c3 : UInt8) : C.V := ((C.z8 c0 ||| C.z8 c1 <<< 8) ||| C.z8 c2 <<< 16) ||| C.z8 c3 <<< 24
theorem unle_le (s : C.V) : unle (UInt8.ofNat s.toNat) (UInt8.ofNat (s >>> 8).toNat) (UInt8.ofNat (s >>> 16).toNat) (UInt8.ofNat (s >>> 24).toNat) = s := by
  have hz : ∀ x : C.V, C.z8 (UInt8.ofNat x.toNat) = x &&& 255#32 := by
    intro x
    apply BitVec.eq_of_toNat_eq
    rw [BitVec.toNat_and]
    simp only [C.z8, BitVec.toNat_ofNat]
    rw [show 255 % 2 ^ 32 = 2 ^ 8 - 1 from rfl, Nat.and_two_pow_sub_one_eq_mod]
    simp
    omega
  unfold unle
  rw [hz, hz, hz, hz]
  apply BitVec.eq_of_getLsbD_eq
  intro i hi
  have h255 : ∀ j, (255#32).getLsbD j = decide (j < 8) := by
    intro j
    by_cases hj : j < 32
    · have : ∀ j : Fin 32, (255#32).getLsbD j.val = decide (j.val < 8) := by decide
      exact this ⟨j, hj⟩
    · rw [BitVec.getLsbD_of_ge _ _ (by omega), decide_eq_false (by omega)]
  simp only [BitVec.getLsbD_or, BitVec.getLsbD_and, BitVec.getLsbD_shiftLeft, BitVec.getLsbD_ushiftRight, h255]
  rw [decide_eq_true hi]
  by_cases h8 : i < 8
  · rw [decide_eq_true h8, decide_eq_true (show i < 16 by omega), decide_eq_true (show i < 24 by omega)]; simp
  · by_cases h16 : i < 16
    · rw [decide_eq_false h8, decide_eq_true h16, decide_eq_true (show i < 24 by omega), decide_eq_true (show i - 8 < 8 by omega), show 8 + (i - 8) = i by omega]; simp
    · by_cases h24 : i < 24
      · rw [decide_eq_false h8, decide_eq_false h16, decide_eq_true h24, decide_eq_false (show ¬ i - 8 < 8 by omega), decide_eq_true (show i - 16 < 8 by omega), show 16 + (i - 16) = i by omega]; simp
      · rw [decide_eq_false h8, decide_eq_false h16, decide_eq_false h24, decide_eq_false (show ¬ i - 8 < 8 by omega), decide_eq_false (show ¬ i - 16 < 8 by omega), decide_eq_true (show i - 24 < 8 by omega), show 24 + (i - 24) = i by omega]; simp
theorem le_unle (c0 c1 c2 c3 : UInt8) : le (unle c0 c1 c2 c3) = [c0, c1, c2, c3] := by
  have hb : ∀ (c : UInt8) (j : Nat), 8 ≤ j → (C.z8 c).getLsbD j = false := by
    intro c j hj
    unfold C.z8
    rw [BitVec.getLsbD_ofNat, Nat.testBit_lt_two_pow (Nat.lt_of_lt_of_le c.toNat_lt (Nat.pow_le_pow_right (by decide) hj))]
    simp
  have key : ∀ (x : C.V) (c : UInt8), (∀ j, j < 8 → x.getLsbD j = (C.z8 c).getLsbD j) → UInt8.ofNat x.toNat = c := by
    intro x c h
    apply UInt8.toNat_inj.1
    apply Nat.eq_of_testBit_eq
    intro j
    have e : (UInt8.ofNat x.toNat).toNat = x.toNat % 2 ^ 8 := by simp
    rw [e, Nat.testBit_mod_two_pow]
    by_cases hj : j < 8
    · rw [decide_eq_true hj, Bool.true_and]
      have := h j hj
      unfold C.z8 at this
      rw [BitVec.getLsbD_ofNat, decide_eq_true (show j < 32 by omega), Bool.true_and] at this
      exact this
    · rw [decide_eq_false hj, Nat.testBit_lt_two_pow (Nat.lt_of_lt_of_le c.toNat_lt (Nat.pow_le_pow_right (by decide) (by omega)))]
      simp
  unfold le
  congr 1
  · apply key
    intro j hj
    unfold unle
    simp only [BitVec.getLsbD_or, BitVec.getLsbD_shiftLeft]
    rw [decide_eq_true (show j < 8 from hj), decide_eq_true (show j < 16 by omega), decide_eq_true (show j < 24 by omega)]; simp
  congr 1
  · apply key
    intro j hj
    unfold unle
    simp only [BitVec.getLsbD_ushiftRight, BitVec.getLsbD_or, BitVec.getLsbD_shiftLeft]
    rw [decide_eq_false (show ¬ 8 + j < 8 by omega), decide_eq_true (show 8 + j < 16 by omega), decide_eq_true (show 8 + j < 24 by omega), decide_eq_true (show 8 + j < 32 by omega), hb c0 _ (by omega), show 8 + j - 8 = j by omega]; simp
  congr 1
  · apply key
    intro j hj
    unfold unle
    simp only [BitVec.getLsbD_ushiftRight, BitVec.getLsbD_or, BitVec.getLsbD_shiftLeft]
    rw [decide_eq_false (show ¬ 16 + j < 8 by omega), decide_eq_false (show ¬ 16 + j < 16 by omega), decide_eq_true (show 16 + j < 24 by omega), decide_eq_true (show 16 + j < 32 by omega), hb c0 _ (by omega), hb c1 _ (by omega), show 16 + j - 16 = j by omega]; simp
  congr 1
  · apply key
    intro j hj
    unfold unle
    simp only [BitVec.getLsbD_ushiftRight, BitVec.getLsbD_or, BitVec.getLsbD_shiftLeft]
    rw [decide_eq_false (show ¬ 24 + j < 8 by omega), decide_eq_false (show ¬ 24 + j < 16 by omega), decide_eq_false (show ¬ 24 + j < 24 by omega), decide_eq_true (show 24 + j < 32 by omega), hb c0 _ (by omega), hb c1 _ (by omega), hb c2 _ (by omega), show 24 + j - 24 = j by omega]; simp
/-- The four bytes are a sum's just if they make it. -/
theorem le_iff (s : C.V) (c0 c1 c2 c3 : UInt8) : le s = [c0, c1, c2, c3] ↔ s = unle c0 c1 c2 c3 := by
  constructor
  · intro h
    have := unle_le s
    unfold le at h
    simp only [List.cons.injEq, and_true] at h
    obtain ⟨h0, h1, h2, h3⟩ := h
    rw [h0, h1, h2, h3] at this
    exact this.symm
  · intro h; rw [h]; exact le_unle c0 c1 c2 c3
end Go.Proofs.YtokbiekdompaoaaDoor

/- Clone and Open. -/
namespace Go.Proofs.YtokbiekdompaoaaDoor
open Go.RowKit

theorem At.owns {w : World} {base n cap : Nat} {a : Option Addr} {bs : List UInt8} (h : w.ownsRow base 5 1 (.slice a n cap) n (S bs)) : At w a bs := by
  rcases h.2 with ⟨e, hn⟩ | ⟨g', cap', cur, e, _⟩
  · have hl := h.1
    rw [length_S, hn] at hl
    obtain rfl : bs = [] := List.eq_nil_of_length_eq_zero (by omega)
    exact At.nil _ _
  · obtain ⟨rfl, rfl⟩ : a = some ⟨g', 0, none⟩ ∧ cap = cap' := by simpa using e
    exact At.own h

/-- What Clone tells. -/
def CPClone (w : World) (bs : List UInt8) (e : Ending) (w' : World) : Prop := ∃ g cap, e = .returned (.slice (some ⟨g, 0, none⟩) bs.length cap) ∧ w.heap.size ≤ g ∧ w'.ownsRow w.heap.size 5 1 (.slice (some ⟨g, 0, none⟩) bs.length cap) bs.length (S bs) ∧ Adds w w'

set_option maxHeartbeats 1000000 in
theorem cclone_any (ad : Addr) (bs : List UInt8) (cap : Nat) (w : World) (hlen : bs.length ≤ 1000000) (hA : At w (some ad) bs) : Calls Tryd.prog 56 #[.slice (some ad) bs.length cap] w (CPClone w bs) := by
  have hq := fun w => Lib.run_eql_slice_nil (P := Tryd.prog) w 55 5 (some ad) bs.length cap 0 0 Tryd.underlying55
  have HA1 := hid (hA.adds ((Touch.refl _ w).alloc (.cells #[] 5)))
  have HO := hid (World.ownsRow_lit (base := w.heap.size) (e := 5) (size := 1) w #[] 0 (Nat.le_refl _) (by decide) rfl)
  have HL := hid hlen
  clear hA hlen
  go_enter Tryd.func56, Tryd.ntmps56
  go_wp2_with (at_builtin; refine append_bytes rfl _ _ rfl w.heap.size (.slice (some ⟨w.heap.size, 0, none⟩) 0 0) 0 [] rfl HO.out (some ad) bs cap rfl (fun e => by cases e) HA1.out (by have := HL.out; omega) (by simp) ?_; intro v1 w1 hown1 hgrow1 hne1)
  go_ret
  have hne : v1 ≠ .slice none 0 0 := by
    rcases hne1 with h | h
    · cases h
    · exact h
  rw [Nat.zero_add, List.nil_append] at hown1
  rcases hown1.2 with ⟨e, _⟩ | ⟨g, cap', cur, rfl, hb, _⟩
  · exact absurd e hne
  · exact ⟨g, cap', rfl, hb, hown1, Touch.grown ((Touch.refl _ w).alloc _) hgrow1 (fun k hk hlt => by simp [Value.ownBlock] at hk; omega)⟩

theorem shl8 (c : UInt8) : (c.toNat : Int) * 256 % 4294967296 = N (C.z8 c <<< 8) := by rw [← N_z8]; exact N_shl (C.z8 c) 8
theorem shl16 (c : UInt8) : (c.toNat : Int) * 65536 % 4294967296 = N (C.z8 c <<< 16) := by rw [← N_z8]; exact N_shl (C.z8 c) 16
theorem shl24 (c : UInt8) : (c.toNat : Int) * 16777216 % 4294967296 = N (C.z8 c <<< 24) := by rw [← N_z8]; exact N_shl (C.z8 c) 24
theorem wrapu (z : Int) : IntKind.u32.wrap z = z % 4294967296 := by simp [IntKind.wrap, IntKind.bits, IntKind.signed]

/-- What Open tells of bytes with four behind them. -/
def PLong (w : World) (body : List UInt8) (c0 c1 c2 c3 : UInt8) (e : Ending) (w' : World) : Prop :=
  (le (C.sum body) = [c0, c1, c2, c3] → ∃ g cap, e = .returned (.tuple #[.slice (some ⟨g, 0, none⟩) body.length cap, .int .i64 0]) ∧ w.heap.size ≤ g ∧ w'.ownsRow w.heap.size 5 1 (.slice (some ⟨g, 0, none⟩) body.length cap) body.length (S body) ∧ Adds w w') ∧
  (le (C.sum body) ≠ [c0, c1, c2, c3] → e = .returned (.tuple #[.slice none 0 0, .int .i64 20]) ∧ Adds w w')

set_option maxRecDepth 100000 in
set_option maxHeartbeats 4000000 in
theorem open_long (b o cap : Nat) (body : List UInt8) (c0 c1 c2 c3 : UInt8) (w : World) (hlen : body.length ≤ 1000000) (hcap : body.length + 4 ≤ cap) (hT : Tab w) (hA : At w (some ⟨b, o, none⟩) (body ++ [c0, c1, c2, c3])) :
    Calls Tryd.prog 74 #[.slice (some ⟨b, o, none⟩) (body.length + 4) cap] w (PLong w body c0 c1 c2 c3) := by
  have hpre : At w (some ⟨b, o, none⟩) body := by have := hA.pre body.length; rwa [List.take_left] at this
  have hsuf : At w (some ⟨b, o + body.length, none⟩) [c0, c1, c2, c3] := by have := hA.suf body.length; rwa [List.drop_left] at this
  have cell : ∀ j c, [c0, c1, c2, c3][j]? = some c → w.cell? ⟨b, o + body.length + j, none⟩ = some (.int .u8 (c.toNat : Int)) := by
    intro j c hj
    obtain ⟨b', o', e, hc⟩ := hsuf j c hj
    obtain ⟨rfl, rfl⟩ : b = b' ∧ o + body.length = o' := by simpa using e
    exact hc
  have e0 : w.cell? ⟨b, o + body.length, none⟩ = some (.int .u8 (c0.toNat : Int)) := cell 0 c0 rfl
  have e1 := cell 1 c1 rfl
  have e2 := cell 2 c2 rfl
  have e3 := cell 3 c3 rfl
  have HE := hid (And.intro e0 (And.intro e1 (And.intro e2 e3)))
  have HS := hid (sum_any (some ⟨b, o, none⟩) body cap w.drew.drew (by omega) hT hpre)
  have HC := hid (cclone_any ⟨b, o, none⟩ body cap w.drew.drew hlen hpre)
  have s1 := run_pre (some ⟨b, o, none⟩) (body.length + 4) cap body.length (by omega)
  have s2 := run_suf (some ⟨b, o, none⟩) (body.length + 4) cap body.length (by omega)
  rw [show sufAt (some ⟨b, o, none⟩) cap body.length = some ⟨b, o + body.length, none⟩ by unfold sufAt; rw [if_neg (by omega)]; simp [Addr.add_mid], show body.length + 4 - body.length = 4 by omega] at s2
  have hiff := le_iff (C.sum body) c0 c1 c2 c3
  have hn : body.length + 4 ≤ 1000004 := by omega
  have y0 := byte32 c0
  have y1 := byte32 c1
  have y2 := byte32 c2
  have y3 := byte32 c3
  have m1 := (wrapu ((c1.toNat : Int) * 256)).trans (shl8 c1)
  have m2 := (wrapu ((c2.toNat : Int) * 65536)).trans (shl16 c2)
  have m3 := (wrapu ((c3.toNat : Int) * 16777216)).trans (shl24 c3)
  have o1 : bits .or .u32 (c0.toNat : Int) (N (C.z8 c1 <<< 8)) = N (C.z8 c0 ||| C.z8 c1 <<< 8) := by rw [← N_z8]; exact bits_or _ _
  have o2 := bits_or (C.z8 c0 ||| C.z8 c1 <<< 8) (C.z8 c2 <<< 16)
  have o3 : bits .or .u32 (N (C.z8 c0 ||| C.z8 c1 <<< 8 ||| C.z8 c2 <<< 16)) (N (C.z8 c3 <<< 24)) = N (unle c0 c1 c2 c3) := bits_or _ _
  generalize C.z8 c0 ||| C.z8 c1 <<< 8 ||| C.z8 c2 <<< 16 = r2 at o2 o3
  generalize C.z8 c0 ||| C.z8 c1 <<< 8 = r1 at o1 o2
  generalize C.z8 c1 <<< 8 = t1 at m1 o1
  generalize C.z8 c2 <<< 16 = t2 at m2 o2
  generalize C.z8 c3 <<< 24 = t3 at m3 o3
  generalize unle c0 c1 c2 c3 = u at o3 hiff
  have HI := hid hiff
  have q1 : IntKind.i64.wrap ((body.length : Int) + 4 - 4) = (body.length : Int) := by rw [IntKind.wrap_i64]; omega
  have q2 : IntKind.i64.wrap (body.length : Int) = (body.length : Int) := by rw [IntKind.wrap_i64]; omega
  clear hiff hsuf hpre cell hA hT e0 e1 e2 e3
  by_cases hsu : C.sum body = u
  · have HY := hid (HI.out.2 hsu)
    rw [hsu] at HS
    clear hsu
    go_enter Tryd.func74, Tryd.ntmps74
    go_wp2
    go_region_held3 (fun _ => True) (trivial) (fail)
    go_wp2
    go_region_held3 (fun w' => w'.cell? ⟨b, o + body.length, none⟩ = some (.int .u8 (c0.toNat : Int)) ∧ w'.cell? ⟨b, o + body.length + 1, none⟩ = some (.int .u8 (c1.toNat : Int)) ∧ w'.cell? ⟨b, o + body.length + 2, none⟩ = some (.int .u8 (c2.toNat : Int)) ∧ w'.cell? ⟨b, o + body.length + 3, none⟩ = some (.int .u8 (c3.toNat : Int))) (exact HE.out) (first | (go_at_call 93; refine HS.out.mono ?_; rintro e _ ⟨rfl, hw⟩; rw [hw]; clear hw))
    go_wp2_with (go_at_call 56; refine HC.out.mono ?_; rintro e w1 ⟨g, cap1, rfl, hg, hown, hA1⟩)
    go_ret2
    refine ⟨fun _ => ⟨g, cap1, rfl, hg, hown, ?_⟩, fun h => absurd HY.out h⟩
    exact (Touch.refl _ w).drew.drew.trans hA1
  · have HY := hid (fun h => hsu (HI.out.1 h))
    have hne : N (C.sum body) ≠ N u := fun h => hsu (N_inj h)
    clear hsu
    go_enter Tryd.func74, Tryd.ntmps74
    go_wp2
    go_region_held3 (fun _ => True) (trivial) (fail)
    go_wp2
    go_region_held3 (fun w' => w'.cell? ⟨b, o + body.length, none⟩ = some (.int .u8 (c0.toNat : Int)) ∧ w'.cell? ⟨b, o + body.length + 1, none⟩ = some (.int .u8 (c1.toNat : Int)) ∧ w'.cell? ⟨b, o + body.length + 2, none⟩ = some (.int .u8 (c2.toNat : Int)) ∧ w'.cell? ⟨b, o + body.length + 3, none⟩ = some (.int .u8 (c3.toNat : Int))) (exact HE.out) (first | (go_at_call 93; refine HS.out.mono ?_; rintro e _ ⟨rfl, hw⟩; rw [hw]; clear hw))
    go_wp2_with (go_at_call 56; refine HC.out.mono ?_; rintro e w1 ⟨g, cap1, rfl, hg, hown, hA1⟩)
    go_ret2
    exact ⟨fun h => absurd h HY.out, fun _ => ⟨rfl, (Touch.refl _ w).drew.drew⟩⟩
end Go.Proofs.YtokbiekdompaoaaDoor

/- Open and the reference's, of whatever bytes. -/
namespace Go.Proofs.YtokbiekdompaoaaDoor
open Go.RowKit

/-- What is opened. -/
def opened (bs : List UInt8) : List UInt8 := if bs.length < 4 then [] else if sealed (bs.take (bs.length - 4)) = bs then bs.take (bs.length - 4) else []
/-- Why not. -/
def openErr (bs : List UInt8) : Int := if bs.length < 4 then 21 else if sealed (bs.take (bs.length - 4)) = bs then 0 else 20

theorem four_of {l : List UInt8} (h : l.length = 4) : ∃ c0 c1 c2 c3, l = [c0, c1, c2, c3] := by
  match l, h with
  | [c0, c1, c2, c3], _ => exact ⟨c0, c1, c2, c3, rfl⟩
theorem cut4 {bs : List UInt8} (h : 4 ≤ bs.length) : ∃ body c0 c1 c2 c3, bs = body ++ [c0, c1, c2, c3] ∧ bs.take (bs.length - 4) = body := by
  obtain ⟨c0, c1, c2, c3, h4⟩ := four_of (l := bs.drop (bs.length - 4)) (by rw [List.length_drop]; omega)
  refine ⟨bs.take (bs.length - 4), c0, c1, c2, c3, ?_, rfl⟩
  rw [← h4, List.take_append_drop]
/-- What Open tells. -/
def POpen (w : World) (bs : List UInt8) (e : Ending) (w' : World) : Prop := ∃ ay cy, e = .returned (.tuple #[.slice ay (opened bs).length cy, .int .i64 (openErr bs)]) ∧ w'.ownsRow w.heap.size 5 1 (.slice ay (opened bs).length cy) (opened bs).length (S (opened bs)) ∧ Adds w w'
/-- What the reference's tells. -/
def PROpen (w : World) (bs : List UInt8) (e : Ending) (w' : World) : Prop := ∃ az cz, e = .returned (.tuple #[.slice az (opened bs).length cz, .int .i64 (openErr bs)]) ∧ At w' az (opened bs) ∧ Adds w w'

set_option maxHeartbeats 1000000 in
theorem open_short (a : Option Addr) (n cap : Nat) (hn : n < 4) (w : World) : Calls Tryd.prog 74 #[.slice a n cap] w fun e w' => e = .returned (.tuple #[.slice none 0 0, .int .i64 21]) ∧ w' = w := by
  go_enter Tryd.func74, Tryd.ntmps74
  go_wp2
  go_ret2
  exact ⟨rfl, rfl⟩
theorem open_any (a : Option Addr) (bs : List UInt8) (cap : Nat) (w : World) (hlen : bs.length ≤ 1000000) (hcap : bs.length ≤ cap) (hT : Tab w) (hA : At w a bs) : Calls Tryd.prog 74 #[.slice a bs.length cap] w (POpen w bs) := by
  by_cases h4 : bs.length < 4
  · refine (open_short a bs.length cap h4 w).mono ?_
    rintro e w' ⟨rfl, rfl⟩
    have e1 : opened bs = [] := by rw [opened, if_pos h4]
    have e2 : openErr bs = 21 := by rw [openErr, if_pos h4]
    refine ⟨none, 0, by rw [e1, e2]; rfl, ?_, Touch.refl _ _⟩
    rw [e1]
    exact World.ownsRow_nil _ _ _ _
  · obtain ⟨b, o, rfl⟩ := hA.ad (by omega)
    obtain ⟨body, c0, c1, c2, c3, hb, ht⟩ := cut4 (show 4 ≤ bs.length by omega)
    have hl : bs.length = body.length + 4 := by rw [hb]; simp
    have hiff : sealed body = bs ↔ le (C.sum body) = [c0, c1, c2, c3] := by rw [hb, sealed, List.append_cancel_left_eq]
    rw [hl]
    rw [hb] at hA
    refine (open_long b o cap body c0 c1 c2 c3 w (by omega) (by omega) hT hA).mono ?_
    rintro e w' ⟨hy, hno⟩
    by_cases hs : sealed body = bs
    · obtain ⟨g, cap1, rfl, hg, hown, hA1⟩ := hy (hiff.1 hs)
      have e1 : opened bs = body := by rw [opened, if_neg h4, ht, if_pos hs]
      have e2 : openErr bs = 0 := by rw [openErr, if_neg h4, ht, if_pos hs]
      exact ⟨some ⟨g, 0, none⟩, cap1, by rw [e1, e2], by rw [e1]; exact hown, hA1⟩
    · obtain ⟨rfl, hA1⟩ := hno (fun h => hs (hiff.2 h))
      have e1 : opened bs = [] := by rw [opened, if_neg h4, ht, if_neg hs]
      have e2 : openErr bs = 20 := by rw [openErr, if_neg h4, ht, if_neg hs]
      refine ⟨none, 0, by rw [e1, e2]; rfl, ?_, hA1⟩
      rw [e1]
      exact World.ownsRow_nil _ _ _ _

end Go.Proofs.YtokbiekdompaoaaDoor
