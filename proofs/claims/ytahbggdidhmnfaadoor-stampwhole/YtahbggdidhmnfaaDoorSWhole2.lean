/- The walk of StampWhole: its ways behind two sectors, the first one of bytes 0. -/
import Derived.Test.YtahbggdidhmnfaaDoorSWhole0
namespace Go.Proofs.YtahbggdidhmnfaaDoor
open Go.RowKit

namespace SWh
set_option maxRecDepth 100000 in
set_option maxHeartbeats 1500000 in
theorem main_zero_y (n0 n1 : Nat) (a : Option Addr) (x : List UInt8) (cap : Nat) (b : Option Addr) (y : List UInt8) (cap2 : Nat) (z : Int) (w : World) (hT : Tab w) (hA : At w a x) (hB : At w b y) (X Y t : List UInt8) (lx : X.length = 256) (ly : Y.length = 256) (ht : M.torn X Y z = t) (m : Nat) (k : UInt8) (bd : List UInt8) (er : Nat) (hm : M.oMark t = m) (hk : M.oKind t = k) (hb : M.oBody t = bd) (he : M.oErr t = er) (h01 : n0 ≠ n1) (h0 : n0 = 0) (hX0 : X = List.replicate 256 0) (q : Nat) (hX : ∀ w', Calls Tryd.prog 8 #[.int .u64 (n0 : Int), .int .u8 1, .slice a x.length cap] w' fun e w'' => e = .returned (.tuple #[.slice none 0 0, .int .i64 (q : Int)]) ∧ w'' = w') (hY : ∀ w', Adds w w' → Calls Tryd.prog 8 #[.int .u64 (n1 : Int), .int .u8 2, .slice b y.length cap2] w' (PWrap w' Y)) (hw : t = Y) (w1 : er = 0) (w2 : n1 = m) (w3 : y = bd) : Calls Tryd.prog 6 #[.int .u64 (n0 : Int), .int .u64 (n1 : Int), .slice a x.length cap, .slice b y.length cap2, .int .i64 z] w (Adding (.bool true) w) := by
  have lt : t.length = 256 := by rw [← ht, M.len_torn X Y z lx ly]
  have HW := hid (works_any w hT)
  have HX := hid hX
  have HY := hid hY
  have HT := hid hT
  have HAB := hid (And.intro hA hB)
  have HTn := hid (fun gx gy w' => torn_is gx gy X Y z t w' lx ly ht)
  have HOp := hid (fun a' c' p w' => sopen_at a' t c' p w' m k bd er lt (hm := hm) (hk := hk) (hb := hb) (hz := he))
  have HL := hid (And.intro lt (And.intro lx ly))
  have h01b : ((n0 : Int) == (n1 : Int)) = false := beq_eq_false_iff_ne.2 (by omega)
  subst h0
  have HX0 := hid hX0
  have hmk := make256
  subst w1 w2 w3
  have EQ := hid hw
  clear hT hX hY hA hB lx ly lt ht hm hk hb he h01 hX0 hw
  go_enter Tryd.func6, Tryd.ntmps6
  go_wp2_with (first
    | (go_at_call 10; refine HW.out.mono ?_; rintro e w1 ⟨rfl, hA⟩; have A1 := hid hA; clear hA)
    | (have MX := MX; go_at_call 8; refine (HY.out w1 A1.out).mono ?_; rintro e w3 ⟨gy, rfl, hg, hS, hA⟩; have S3 := hid hS; have A3 := hid (A1.out.trans hA); clear hg hS hA)
    | (go_at_call 8; refine (HX.out w1).mono ?_; rintro e _ ⟨rfl, hw⟩; rw [hw]; clear hw; have MX := hid trivial)
    | (go_at_call 13; refine (HTn.out ⟨w3.heap.size, 0, none⟩ ⟨gy, 0, none⟩ (w3.alloc (.cells Z256 5)) (by rw [HX0.out]; exact At.z256 w3) (S3.out.adds ((Touch.refl _ w3).alloc _)).at).mono ?_; rintro e w4 ⟨at4, ct4, rfl, L4, hA⟩; have A4 := hid ((A3.out.alloc _).trans hA); have S4 := hid (show At w4 (some ⟨w3.heap.size, 0, none⟩) X ∧ At w4 (some ⟨gy, 0, none⟩) Y from And.intro (by rw [HX0.out]; exact (At.z256 w3).adds hA) (S3.out.adds (((Touch.refl _ w3).alloc _).trans hA)).at); clear hA)
    | (go_at_call 11; refine (HOp.out at4 ct4 _ w4 L4.out (HT.out.adds A4.out)).mono ?_; rintro e w5 ⟨av, cv, rfl, hB, hA⟩; have ft := conv_len w5 at4 t 256 ct4 HL.out.1 (L4.out.at_.adds hA); have fx := conv_len w5 (some ⟨w3.heap.size, 0, none⟩) X 256 256 HL.out.2.1 (S4.out.1.adds hA); have fy := conv_len w5 (some ⟨gy, 0, none⟩) Y 256 256 HL.out.2.2 (S4.out.2.adds hA); have fb := conv_at w5 av y cv hB.out.at; have fc := conv_at w5 b y cap2 (HAB.out.2.adds (A4.out.trans hA)); rw [EQ.out] at ft; generalize (⟨y.toArray⟩ : ByteArray) = bz at fb fc; generalize (⟨X.toArray⟩ : ByteArray) = bX at fx; generalize (⟨Y.toArray⟩ : ByteArray) = bY at fy ft; have A5 := hid (A4.out.trans hA); clear hA hB))
  go_ret
  exact ⟨rfl, A5.out⟩
set_option maxRecDepth 100000 in
set_option maxHeartbeats 1500000 in
theorem main_zero_x (n0 n1 : Nat) (a : Option Addr) (x : List UInt8) (cap : Nat) (b : Option Addr) (y : List UInt8) (cap2 : Nat) (z : Int) (w : World) (hT : Tab w) (hA : At w a x) (hB : At w b y) (X Y t : List UInt8) (lx : X.length = 256) (ly : Y.length = 256) (ht : M.torn X Y z = t) (m : Nat) (k : UInt8) (bd : List UInt8) (er : Nat) (hm : M.oMark t = m) (hk : M.oKind t = k) (hb : M.oBody t = bd) (he : M.oErr t = er) (h01 : n0 ≠ n1) (h0 : n0 = 0) (hX0 : X = List.replicate 256 0) (q : Nat) (hX : ∀ w', Calls Tryd.prog 8 #[.int .u64 (n0 : Int), .int .u8 1, .slice a x.length cap] w' fun e w'' => e = .returned (.tuple #[.slice none 0 0, .int .i64 (q : Int)]) ∧ w'' = w') (hY : ∀ w', Adds w w' → Calls Tryd.prog 8 #[.int .u64 (n1 : Int), .int .u8 2, .slice b y.length cap2] w' (PWrap w' Y)) (hw : t = X) (hne : X ≠ Y) (w1 : er = 40) : Calls Tryd.prog 6 #[.int .u64 (n0 : Int), .int .u64 (n1 : Int), .slice a x.length cap, .slice b y.length cap2, .int .i64 z] w (Adding (.bool true) w) := by
  have lt : t.length = 256 := by rw [← ht, M.len_torn X Y z lx ly]
  have HW := hid (works_any w hT)
  have HX := hid hX
  have HY := hid hY
  have HT := hid hT
  have HAB := hid (And.intro hA hB)
  have HTn := hid (fun gx gy w' => torn_is gx gy X Y z t w' lx ly ht)
  have HOp := hid (fun a' c' p w' => sopen_at a' t c' p w' m k bd er lt (hm := hm) (hk := hk) (hb := hb) (hz := he))
  have HL := hid (And.intro lt (And.intro lx ly))
  have h01b : ((n0 : Int) == (n1 : Int)) = false := beq_eq_false_iff_ne.2 (by omega)
  subst h0
  have HX0 := hid hX0
  have hmk := make256
  subst w1
  have EQ := hid hw
  have NE := hid hne
  clear hT hX hY hA hB lx ly lt ht hm hk hb he h01 hX0 hw hne
  go_enter Tryd.func6, Tryd.ntmps6
  go_wp2_with (first
    | (go_at_call 10; refine HW.out.mono ?_; rintro e w1 ⟨rfl, hA⟩; have A1 := hid hA; clear hA)
    | (have MX := MX; go_at_call 8; refine (HY.out w1 A1.out).mono ?_; rintro e w3 ⟨gy, rfl, hg, hS, hA⟩; have S3 := hid hS; have A3 := hid (A1.out.trans hA); clear hg hS hA)
    | (go_at_call 8; refine (HX.out w1).mono ?_; rintro e _ ⟨rfl, hw⟩; rw [hw]; clear hw; have MX := hid trivial)
    | (go_at_call 13; refine (HTn.out ⟨w3.heap.size, 0, none⟩ ⟨gy, 0, none⟩ (w3.alloc (.cells Z256 5)) (by rw [HX0.out]; exact At.z256 w3) (S3.out.adds ((Touch.refl _ w3).alloc _)).at).mono ?_; rintro e w4 ⟨at4, ct4, rfl, L4, hA⟩; have A4 := hid ((A3.out.alloc _).trans hA); have S4 := hid (show At w4 (some ⟨w3.heap.size, 0, none⟩) X ∧ At w4 (some ⟨gy, 0, none⟩) Y from And.intro (by rw [HX0.out]; exact (At.z256 w3).adds hA) (S3.out.adds (((Touch.refl _ w3).alloc _).trans hA)).at); clear hA)
    | (go_at_call 11; refine (HOp.out at4 ct4 _ w4 L4.out (HT.out.adds A4.out)).mono ?_; rintro e w5 ⟨av, cv, rfl, hB, hA⟩; have ft := conv_len w5 at4 t 256 ct4 HL.out.1 (L4.out.at_.adds hA); have fx := conv_len w5 (some ⟨w3.heap.size, 0, none⟩) X 256 256 HL.out.2.1 (S4.out.1.adds hA); have fy := conv_len w5 (some ⟨gy, 0, none⟩) Y 256 256 HL.out.2.2 (S4.out.2.adds hA); rw [EQ.out] at ft; have ne1 := str_ne NE.out; generalize (⟨X.toArray⟩ : ByteArray) = bX at fx ft ne1; generalize (⟨Y.toArray⟩ : ByteArray) = bY at fy ne1; have A5 := hid (A4.out.trans hA); clear hA hB))
  go_ret
  exact ⟨rfl, A5.out⟩
set_option maxRecDepth 100000 in
set_option maxHeartbeats 1500000 in
theorem main_zero_no (n0 n1 : Nat) (a : Option Addr) (x : List UInt8) (cap : Nat) (b : Option Addr) (y : List UInt8) (cap2 : Nat) (z : Int) (w : World) (hT : Tab w) (hA : At w a x) (hB : At w b y) (X Y t : List UInt8) (lx : X.length = 256) (ly : Y.length = 256) (ht : M.torn X Y z = t) (m : Nat) (k : UInt8) (bd : List UInt8) (er : Nat) (hm : M.oMark t = m) (hk : M.oKind t = k) (hb : M.oBody t = bd) (he : M.oErr t = er) (h01 : n0 ≠ n1) (h0 : n0 = 0) (hX0 : X = List.replicate 256 0) (q : Nat) (hX : ∀ w', Calls Tryd.prog 8 #[.int .u64 (n0 : Int), .int .u8 1, .slice a x.length cap] w' fun e w'' => e = .returned (.tuple #[.slice none 0 0, .int .i64 (q : Int)]) ∧ w'' = w') (hY : ∀ w', Adds w w' → Calls Tryd.prog 8 #[.int .u64 (n1 : Int), .int .u8 2, .slice b y.length cap2] w' (PWrap w' Y)) (hwx : t ≠ X) (hwy : t ≠ Y) (w1 : er ≠ 0) (w2 : m = 0) (w3 : bd = []) : Calls Tryd.prog 6 #[.int .u64 (n0 : Int), .int .u64 (n1 : Int), .slice a x.length cap, .slice b y.length cap2, .int .i64 z] w (Adding (.bool true) w) := by
  have lt : t.length = 256 := by rw [← ht, M.len_torn X Y z lx ly]
  have HW := hid (works_any w hT)
  have HX := hid hX
  have HY := hid hY
  have HT := hid hT
  have HAB := hid (And.intro hA hB)
  have HTn := hid (fun gx gy w' => torn_is gx gy X Y z t w' lx ly ht)
  have HOp := hid (fun a' c' p w' => sopen_at a' t c' p w' m k bd er lt (hm := hm) (hk := hk) (hb := hb) (hz := he))
  have HL := hid (And.intro lt (And.intro lx ly))
  have h01b : ((n0 : Int) == (n1 : Int)) = false := beq_eq_false_iff_ne.2 (by omega)
  subst h0
  have HX0 := hid hX0
  have hmk := make256
  subst w2 w3
  have herb : ((er : Int) != 0) = true := bne_iff_ne.2 (by omega)
  have NE := hid (And.intro hwx hwy)
  clear hT hX hY hA hB lx ly lt ht hm hk hb he h01 hX0 hwx hwy w1
  go_enter Tryd.func6, Tryd.ntmps6
  go_wp2_with (first
    | (go_at_call 10; refine HW.out.mono ?_; rintro e w1 ⟨rfl, hA⟩; have A1 := hid hA; clear hA)
    | (have MX := MX; go_at_call 8; refine (HY.out w1 A1.out).mono ?_; rintro e w3 ⟨gy, rfl, hg, hS, hA⟩; have S3 := hid hS; have A3 := hid (A1.out.trans hA); clear hg hS hA)
    | (go_at_call 8; refine (HX.out w1).mono ?_; rintro e _ ⟨rfl, hw⟩; rw [hw]; clear hw; have MX := hid trivial)
    | (go_at_call 13; refine (HTn.out ⟨w3.heap.size, 0, none⟩ ⟨gy, 0, none⟩ (w3.alloc (.cells Z256 5)) (by rw [HX0.out]; exact At.z256 w3) (S3.out.adds ((Touch.refl _ w3).alloc _)).at).mono ?_; rintro e w4 ⟨at4, ct4, rfl, L4, hA⟩; have A4 := hid ((A3.out.alloc _).trans hA); have S4 := hid (show At w4 (some ⟨w3.heap.size, 0, none⟩) X ∧ At w4 (some ⟨gy, 0, none⟩) Y from And.intro (by rw [HX0.out]; exact (At.z256 w3).adds hA) (S3.out.adds (((Touch.refl _ w3).alloc _).trans hA)).at); clear hA)
    | (go_at_call 11; refine (HOp.out at4 ct4 _ w4 L4.out (HT.out.adds A4.out)).mono ?_; rintro e w5 ⟨av, cv, rfl, hB, hA⟩; have ft := conv_len w5 at4 t 256 ct4 HL.out.1 (L4.out.at_.adds hA); have fx := conv_len w5 (some ⟨w3.heap.size, 0, none⟩) X 256 256 HL.out.2.1 (S4.out.1.adds hA); have fy := conv_len w5 (some ⟨gy, 0, none⟩) Y 256 256 HL.out.2.2 (S4.out.2.adds hA); have ne1 := str_ne NE.out.1; have ne2 := str_ne NE.out.2; generalize (⟨t.toArray⟩ : ByteArray) = bt at ft ne1 ne2; generalize (⟨X.toArray⟩ : ByteArray) = bX at fx ne1; generalize (⟨Y.toArray⟩ : ByteArray) = bY at fy ne2; have A5 := hid (A4.out.trans hA); clear hA hB))
  go_ret
  exact ⟨rfl, A5.out⟩
end SWh
end Go.Proofs.YtahbggdidhmnfaaDoor
