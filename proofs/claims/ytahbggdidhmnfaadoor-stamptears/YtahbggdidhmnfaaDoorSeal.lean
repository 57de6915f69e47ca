/- Bytes put behind bytes; Seal and the reference's. -/
import Derived.Test.YtahbggdidhmnfaaDoorSum
import Derived.Laws.AppendOwnNone
import Derived.Laws.MakeOwn
namespace Go.Proofs.YtahbggdidhmnfaaDoor
open Go.RowKit

/-- A sum's four bytes. -/
def le (s : C.V) : List UInt8 := [UInt8.ofNat s.toNat, UInt8.ofNat (s >>> 8).toNat, UInt8.ofNat (s >>> 16).toNat, UInt8.ofNat (s >>> 24).toNat]
theorem len_le (s : C.V) : (le s).length = 4 := rfl
theorem wrap8 (x : C.V) : IntKind.u8.wrap (N x) = ((UInt8.ofNat x.toNat).toNat : Int) := by
  simp only [IntKind.wrap, IntKind.bits, IntKind.signed, N]
  simp
theorem wrap_byte (c : UInt8) : IntKind.u8.wrap (c.toNat : Int) = (c.toNat : Int) := by
  have := c.toNat_lt
  simp only [IntKind.wrap, IntKind.bits, IntKind.signed]
  simp
  omega
def sealed (bs : List UInt8) : List UInt8 := bs ++ le (C.sum bs)
theorem len_sealed (bs : List UInt8) : (sealed bs).length = bs.length + 4 := by simp [sealed, len_le]

theorem At.four (w : World) (c0 c1 c2 c3 : UInt8) : At (w.alloc (.cells #[.int .u8 (c0.toNat : Int), .int .u8 (c1.toNat : Int), .int .u8 (c2.toNat : Int), .int .u8 (c3.toNat : Int)] 5)) (some ⟨w.heap.size, 0, none⟩) [c0, c1, c2, c3] := by
  intro j c hj
  refine ⟨_, _, rfl, ?_⟩
  rw [cell_of_row _ _ _ _ _ _ (heap_alloc_new w _)]
  match j, hj with
  | 0, hj => obtain rfl : _ = c := Option.some.inj hj; rfl
  | 1, hj => obtain rfl : _ = c := Option.some.inj hj; rfl
  | 2, hj => obtain rfl : _ = c := Option.some.inj hj; rfl
  | 3, hj => obtain rfl : _ = c := Option.some.inj hj; rfl
  | j + 4, hj => simp at hj
theorem four (s : C.V) : ∃ c0 c1 c2 c3 : UInt8, le s = [c0, c1, c2, c3] ∧ (IntKind.u8.wrap (N s) = (c0.toNat : Int) ∧ IntKind.u8.wrap (N (s >>> 8)) = (c1.toNat : Int) ∧ IntKind.u8.wrap (N (s >>> 16)) = (c2.toNat : Int) ∧ IntKind.u8.wrap (N (s >>> 24)) = (c3.toNat : Int)) ∧
    N s % (256 : Int) = (c0.toNat : Int) ∧ N (s >>> 8) % (256 : Int) = (c1.toNat : Int) ∧ N (s >>> 16) % (256 : Int) = (c2.toNat : Int) ∧ N (s >>> 24) % (256 : Int) = (c3.toNat : Int) :=
  ⟨_, _, _, _, rfl, ⟨wrap8 _, wrap8 _, wrap8 _, wrap8 _⟩, by rw [← wrap8]; rfl, by rw [← wrap8]; rfl, by rw [← wrap8]; rfl, by rw [← wrap8]; rfl⟩

/-- What Seal tells. -/
def PSeal (w : World) (bs : List UInt8) (e : Ending) (w' : World) : Prop := ∃ g cap, e = .returned (.slice (some ⟨g, 0, none⟩) (bs.length + 4) cap) ∧ w.heap.size ≤ g ∧ w'.ownsRow w.heap.size 5 1 (.slice (some ⟨g, 0, none⟩) (bs.length + 4) cap) (bs.length + 4) (S (sealed bs)) ∧ Adds w w'

theorem make_room (n : Nat) (hn : n ≤ 70368744177664) (w : World) : (Instr.makeSlice 23 (.int .i64 0) (.int .i64 ((n : Int) + 4))).run Tryd.prog w = .ok (.slice (some ⟨w.heap.size, 0, none⟩) 0 (n + 4)) (w.alloc (.cells (madeCells #[.int .u8 0] (n + 4)) 5)) := by
  obtain ⟨i0, hi, hz0, hz1, hz2⟩ := info5all
  have := run_make (P := Tryd.prog) w 23 5 i0 (.int .u8 0) Tryd.underlying23 hi hz0 .i64 .i64 0 ((n : Int) + 4) (by decide) (by omega) (by rw [hz2]; omega) (by omega)
  rw [this, hz1]
  have e : ((n : Int) + 4).toNat = n + 4 := by omega
  rw [e, Nat.mul_one]
  rfl

set_option maxRecDepth 100000 in
set_option maxHeartbeats 1000000 in
theorem seal_any (a : Option Addr) (bs : List UInt8) (cap : Nat) (w : World) (hlen : bs.length ≤ 1000000) (hcap : a = none → cap = 0) (hT : Tab w) (hA : At w a bs) : Calls Tryd.prog 19 #[.slice a bs.length cap] w (PSeal w bs) := by
  have hmk := make_room bs.length (by omega)
  have HC := hid hcap
  have HA1 := hid (hA.adds ((Touch.refl _ w).alloc (.cells (madeCells #[.int .u8 0] (bs.length + 4)) 5)))
  have HS := hid (fun w1 (h : Adds w w1) => sum_any a bs cap w1 (by omega) (hT.adds h) (hA.adds h))
  have HO := hid (World.ownsRow_made (base := w.heap.size) (e := 5) (size := 1) w (madeCells #[.int .u8 0] (bs.length + 4)) (bs.length + 4) (Nat.le_refl _) (by unfold maxLen; omega) (by rw [size_madeCells, Nat.mul_one]))
  obtain ⟨c0, c1, c2, c3, hle, ⟨b0, b1, b2, b3⟩, d0, d1, d2, d3⟩ := four (C.sum bs)
  have s1 := N_shr8 (C.sum bs)
  have s2 := N_shr16 (C.sum bs)
  have s3 := N_shr24 (C.sum bs)
  have HL := hid hlen
  have HLE := hid hle
  clear hcap hT hA hle
  go_enter Tryd.func19, Tryd.ntmps19
  go_wp2_with (first
    | (at_builtin; refine append_bytes rfl _ _ rfl w.heap.size (.slice (some ⟨w.heap.size, 0, none⟩) 0 (bs.length + 4)) 0 [] rfl HO.out a bs cap rfl HC.out HA1.out (by have := HL.out; omega) (by simp) ?_; intro v1 w1 hown1 hgrow1 hne1; clear hmk; have hA1 : Adds w w1 := Touch.grown ((Touch.refl _ w).alloc _) hgrow1 (fun k hk hlt => by simp [Value.ownBlock] at hk; omega); have HO1 := hid (And.intro hown1 hne1); have HGZ := hid hgrow1; clear hown1 hgrow1 hne1)
    | (at_builtin; refine append_bytes rfl _ _ rfl w.heap.size v1 (0 + bs.length) ([] ++ S bs) rfl (HO1.out.1.kept (World.grownBy_alloc w1 _ none) (own_none v1)) (some ⟨w1.heap.size, 0, none⟩) [c0, c1, c2, c3] 4 rfl (fun e => by cases e) (At.four w1 c0 c1 c2 c3) (by have := HL.out; simp; omega) (by have := hA1.size; simp; omega) ?_; intro v2 w2 hown2 hgrow2 _)
    | (go_at_call 32; refine (HS.out w1 hA1).mono ?_; rintro e _ ⟨rfl, hw⟩; rw [hw]; clear hw))
  go_ret
  obtain ⟨g, cap2, rfl, hg, _⟩ := Own.some hown2 (by simp)
  have hS : S (sealed bs) = [] ++ S bs ++ S [c0, c1, c2, c3] := by simp [sealed, S, HLE.out]
  have hn : bs.length + 4 = 0 + bs.length + [c0, c1, c2, c3].length := by simp
  refine ⟨g, cap2, by rw [hn]; rfl, hg, by rw [hn, hS]; exact hown2, ?_⟩
  exact Touch.grown (hA1.alloc _) hgrow2 (fun k hk hlt => by have := (HO1.out.1.lt k hk).1; omega)

set_option maxRecDepth 100000 in
set_option maxHeartbeats 1000000 in
theorem rseal_any (a : Option Addr) (bs : List UInt8) (cap : Nat) (w : World) (hlen : bs.length ≤ 1000000) (hcap : a = none → cap = 0) (hA : At w a bs) : Calls Tryd.prog 23 #[.slice a bs.length cap] w (PSeal w bs) := by
  have HC := hid hcap
  have HA1 := hid (hA.adds ((Touch.refl _ w).alloc (.cells #[] 5)))
  have HS := hid (rsum_any a bs cap w (by omega) hA)
  have HO := hid (World.ownsRow_lit (base := w.heap.size) (e := 5) (size := 1) w #[] 0 (Nat.le_refl _) (by decide) rfl)
  obtain ⟨c0, c1, c2, c3, hle, ⟨b0, b1, b2, b3⟩, d0, d1, d2, d3⟩ := four (C.sum bs)
  have u0 : IntKind.u8.wrap (c0.toNat : Int) = (c0.toNat : Int) := wrap_byte c0
  have u1 : IntKind.u8.wrap (c1.toNat : Int) = (c1.toNat : Int) := wrap_byte c1
  have u2 : IntKind.u8.wrap (c2.toNat : Int) = (c2.toNat : Int) := wrap_byte c2
  have t0 : (N (C.sum bs)).tmod 256 = (c0.toNat : Int) := by rw [Int.tmod_eq_emod_of_nonneg (N_nonneg _)]; exact d0
  have t1 : (N (C.sum bs >>> 8)).tmod 256 = (c1.toNat : Int) := by rw [Int.tmod_eq_emod_of_nonneg (N_nonneg _)]; exact d1
  have t2 : (N (C.sum bs >>> 16)).tmod 256 = (c2.toNat : Int) := by rw [Int.tmod_eq_emod_of_nonneg (N_nonneg _)]; exact d2
  have s1 := N_shr8 (C.sum bs)
  have s2 := N_shr16 (C.sum bs)
  have s3 := N_shr24 (C.sum bs)
  have q1 : (N (C.sum bs)).tdiv 256 = N (C.sum bs >>> 8) := by rw [Int.tdiv_eq_ediv_of_nonneg (N_nonneg _)]; exact s1
  have q2 : (N (C.sum bs)).tdiv 65536 = N (C.sum bs >>> 16) := by rw [Int.tdiv_eq_ediv_of_nonneg (N_nonneg _)]; exact s2
  have q3 : (N (C.sum bs)).tdiv 16777216 = N (C.sum bs >>> 24) := by rw [Int.tdiv_eq_ediv_of_nonneg (N_nonneg _)]; exact s3
  have HL := hid hlen
  have HLE := hid hle
  clear hcap hA hle
  go_enter Tryd.func23, Tryd.ntmps23
  go_wp2_with (first
    | (at_builtin; refine append_bytes rfl _ _ rfl w.heap.size (.slice (some ⟨w.heap.size, 0, none⟩) 0 0) 0 [] rfl HO.out a bs cap rfl HC.out HA1.out (by have := HL.out; omega) (by simp) ?_; intro v1 w1 hown1 hgrow1 hne1; have hA1 : Adds w w1 := Touch.grown ((Touch.refl _ w).alloc _) hgrow1 (fun k hk hlt => by simp [Value.ownBlock] at hk; omega); have HO1 := hid (And.intro hown1 hne1); have HGZ := hid hgrow1; clear hown1 hgrow1 hne1)
    | (at_builtin; refine append_bytes rfl _ _ rfl w.heap.size v1 (0 + bs.length) ([] ++ S bs) rfl (HO1.out.1.kept (World.grownBy_alloc w1 _ none) (own_none v1)) (some ⟨w1.heap.size, 0, none⟩) [c0, c1, c2, c3] 4 rfl (fun e => by cases e) (At.four w1 c0 c1 c2 c3) (by have := HL.out; simp; omega) (by have := hA1.size; simp; omega) ?_; intro v2 w2 hown2 hgrow2 _)
    | (go_at_call 33; refine HS.out.mono ?_; rintro e _ ⟨rfl, hw⟩; rw [hw]; clear hw))
  go_ret
  obtain ⟨g, cap2, rfl, hg, _⟩ := Own.some hown2 (by simp)
  have hS : S (sealed bs) = [] ++ S bs ++ S [c0, c1, c2, c3] := by simp [sealed, S, HLE.out]
  have hn : bs.length + 4 = 0 + bs.length + [c0, c1, c2, c3].length := by simp
  refine ⟨g, cap2, by rw [hn]; rfl, hg, by rw [hn, hS]; exact hown2, ?_⟩
  exact Touch.grown (hA1.alloc _) hgrow2 (fun k hk hlt => by have := (HO1.out.1.lt k hk).1; omega)
end Go.Proofs.YtahbggdidhmnfaaDoor
