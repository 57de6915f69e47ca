/- The walk of StampWhole. -/
import Derived.Test.YtahbggdidhmnfaaDoorWorks
import Derived.Test.YtahbggdidhmnfaaDoorTorn
namespace Go.Proofs.YtahbggdidhmnfaaDoor
open Go.RowKit

namespace SWh
theorem conv_len (w : World) (a : Option Addr) (bs : List UInt8) (n cap : Nat) (hn : bs.length = n) (h : At w a bs) : (convert 23 9 (.slice a n cap)).run Tryd.prog w = .ok (.string ⟨bs.toArray⟩) w := by
  subst hn; exact conv_at w a bs cap h
theorem str_ne {x y : List UInt8} (h : x ≠ y) : ((⟨x.toArray⟩ : ByteArray).toList == (⟨y.toArray⟩ : ByteArray).toList) = false := by
  rw [ByteArray.toList_eq, ByteArray.toList_eq, beq_eq_false_iff_ne]
  exact fun e => h (by simpa using e)
/-- What Torn tells of two of 256 bytes. -/
theorem torn_is (gx gy : Addr) (X Y : List UInt8) (z : Int) (t : List UInt8) (w : World) (hx : X.length = 256) (hy : Y.length = 256) (ht : M.torn X Y z = t) (hX : At w (some gx) X) (hY : At w (some gy) Y) :
    Calls Tryd.prog 13 #[.slice (some gx) 256 256, .slice (some gy) 256 256, .int .i64 z] w fun e w' => ∃ a c, e = .returned (.slice a 256 c) ∧ Hid (Lies w' w'.heap.size a t c) ∧ Adds w w' := by
  have h := torn_any (some gx) X 256 (some gy) Y 256 z w (by omega) (by omega) hX hY (fun e => by cases e) (fun e => by cases e) (by omega) (by omega)
  rw [hx, hy, ht] at h
  refine h.mono ?_
  rintro e w' ⟨v, rfl, h1, h2⟩
  obtain ⟨a, c, rfl, h3⟩ := Own.lies h1
  refine ⟨a, c, ?_, h3, h2⟩
  rw [← ht, M.len_torn X Y z hx hy]
theorem sopen_at (a : Option Addr) (bs : List UInt8) (cap p : Nat) (w : World) (m : Nat) (k : UInt8) (b : List UInt8) (z : Nat) (hlen : bs.length = 256) (hL : Lies w p a bs cap) (hT : Tab w) (hm : M.oMark bs = m) (hk : M.oKind bs = k) (hb : M.oBody bs = b) (hz : M.oErr bs = z) :
    Calls Tryd.prog 11 #[.slice a 256 cap] w (PSO w m k b z) := sopen_is a bs cap 256 w m k b z hlen hL.non hL.at_ hT hm hk hb hz

/-- A call of Wrap that tells an error, or a sector. -/
theorem wrap_all (n : Nat) (k : UInt8) (hk : k ≠ 0) (a : Option Addr) (x : List UInt8) (cap : Nat) :
    (n ≠ 0 ∧ x.length ≤ 233) ∨ ∃ q : Nat, q ≠ 0 ∧ ∀ w', Calls Tryd.prog 8 #[.int .u64 (n : Int), .int .u8 (k.toNat : Int), .slice a x.length cap] w' fun e w'' => e = .returned (.tuple #[.slice none 0 0, .int .i64 (q : Int)]) ∧ w'' = w' := by
  by_cases h0 : n = 0
  · exact .inr ⟨2, by decide, fun w' => swrap_inv n k a x.length cap w' (.inl h0)⟩
  · by_cases h1 : x.length ≤ 233
    · exact .inl ⟨h0, h1⟩
    · exact .inr ⟨3, by decide, fun w' => swrap_big n k a x.length cap w' h0 hk (by omega)⟩
set_option maxRecDepth 100000 in
set_option maxHeartbeats 1500000 in
theorem bad_bad (n0 n1 : Nat) (a : Option Addr) (x : List UInt8) (cap : Nat) (b : Option Addr) (y : List UInt8) (cap2 : Nat) (z : Int) (w : World) (hT : Tab w) (q r : Nat) (hq : q ≠ 0) (hr : r ≠ 0) (h0 : n0 ≠ 0) (hX : ∀ w', Calls Tryd.prog 8 #[.int .u64 (n0 : Int), .int .u8 1, .slice a x.length cap] w' fun e w'' => e = .returned (.tuple #[.slice none 0 0, .int .i64 (q : Int)]) ∧ w'' = w') (hY : ∀ w', Calls Tryd.prog 8 #[.int .u64 (n1 : Int), .int .u8 2, .slice b y.length cap2] w' fun e w'' => e = .returned (.tuple #[.slice none 0 0, .int .i64 (r : Int)]) ∧ w'' = w') : Calls Tryd.prog 6 #[.int .u64 (n0 : Int), .int .u64 (n1 : Int), .slice a x.length cap, .slice b y.length cap2, .int .i64 z] w (Adding (.bool true) w) := by
  have HW := hid (works_any w hT)
  have HX := hid hX
  have HY := hid hY
  have hnb : ((n0 : Int) == 0) = false := beq_eq_false_iff_ne.2 (by omega)
  have hqb : ((q : Int) != 0) = true := bne_iff_ne.2 (by omega)
  have hrb : ((r : Int) != 0) = true := bne_iff_ne.2 (by omega)
  clear hT hX hY hq hr h0
  go_enter Tryd.func6, Tryd.ntmps6
  go_wp2_with (first
    | (go_at_call 10; refine HW.out.mono ?_; rintro e w1 ⟨rfl, hA⟩; have A1 := hid hA; clear hA)
    | (have MX := MX; go_at_call 8; refine (HY.out w1).mono ?_; rintro e _ ⟨rfl, hw⟩; rw [hw]; clear hw)
    | (go_at_call 8; refine (HX.out w1).mono ?_; rintro e _ ⟨rfl, hw⟩; rw [hw]; clear hw; have MX := hid trivial))
  go_ret
  exact ⟨rfl, A1.out⟩
set_option maxRecDepth 100000 in
set_option maxHeartbeats 1500000 in
theorem bad_ok (n0 n1 : Nat) (a : Option Addr) (x : List UInt8) (cap : Nat) (b : Option Addr) (y : List UInt8) (cap2 : Nat) (z : Int) (w : World) (hT : Tab w) (q : Nat) (Y : List UInt8) (hq : q ≠ 0) (h0 : n0 ≠ 0) (hX : ∀ w', Calls Tryd.prog 8 #[.int .u64 (n0 : Int), .int .u8 1, .slice a x.length cap] w' fun e w'' => e = .returned (.tuple #[.slice none 0 0, .int .i64 (q : Int)]) ∧ w'' = w') (hY : ∀ w', Adds w w' → Calls Tryd.prog 8 #[.int .u64 (n1 : Int), .int .u8 2, .slice b y.length cap2] w' (PWrap w' Y)) : Calls Tryd.prog 6 #[.int .u64 (n0 : Int), .int .u64 (n1 : Int), .slice a x.length cap, .slice b y.length cap2, .int .i64 z] w (Adding (.bool true) w) := by
  have HW := hid (works_any w hT)
  have HX := hid hX
  have HY := hid hY
  have hnb : ((n0 : Int) == 0) = false := beq_eq_false_iff_ne.2 (by omega)
  have hqb : ((q : Int) != 0) = true := bne_iff_ne.2 (by omega)
  clear hT hX hY hq h0
  go_enter Tryd.func6, Tryd.ntmps6
  go_wp2_with (first
    | (go_at_call 10; refine HW.out.mono ?_; rintro e w1 ⟨rfl, hA⟩; have A1 := hid hA; clear hA)
    | (have MX := MX; go_at_call 8; refine (HY.out w1 A1.out).mono ?_; rintro e w3 ⟨gy, rfl, hg, hS, hA⟩; have A3 := hid (A1.out.trans hA); clear hg hS hA)
    | (go_at_call 8; refine (HX.out w1).mono ?_; rintro e _ ⟨rfl, hw⟩; rw [hw]; clear hw; have MX := hid trivial))
  go_ret
  exact ⟨rfl, A3.out⟩
set_option maxRecDepth 100000 in
set_option maxHeartbeats 1500000 in
theorem ok_bad (n0 n1 : Nat) (a : Option Addr) (x : List UInt8) (cap : Nat) (b : Option Addr) (y : List UInt8) (cap2 : Nat) (z : Int) (w : World) (hT : Tab w) (r : Nat) (X : List UInt8) (hr : r ≠ 0) (h0 : n0 ≠ 0) (hX : ∀ w', Adds w w' → Calls Tryd.prog 8 #[.int .u64 (n0 : Int), .int .u8 1, .slice a x.length cap] w' (PWrap w' X)) (hY : ∀ w', Calls Tryd.prog 8 #[.int .u64 (n1 : Int), .int .u8 2, .slice b y.length cap2] w' fun e w'' => e = .returned (.tuple #[.slice none 0 0, .int .i64 (r : Int)]) ∧ w'' = w') : Calls Tryd.prog 6 #[.int .u64 (n0 : Int), .int .u64 (n1 : Int), .slice a x.length cap, .slice b y.length cap2, .int .i64 z] w (Adding (.bool true) w) := by
  have HW := hid (works_any w hT)
  have HX := hid hX
  have HY := hid hY
  have hnb : ((n0 : Int) == 0) = false := beq_eq_false_iff_ne.2 (by omega)
  have hrb : ((r : Int) != 0) = true := bne_iff_ne.2 (by omega)
  clear hT hX hY hr h0
  go_enter Tryd.func6, Tryd.ntmps6
  go_wp2_with (first
    | (go_at_call 10; refine HW.out.mono ?_; rintro e w1 ⟨rfl, hA⟩; have A1 := hid hA; clear hA)
    | (go_at_call 8; refine (HY.out w2).mono ?_; rintro e _ ⟨rfl, hw⟩; rw [hw]; clear hw)
    | (go_at_call 8; refine (HX.out w1 A1.out).mono ?_; rintro e w2 ⟨gx, rfl, hg, hS, hA⟩; have S2 := hid hS; have A2 := hid (A1.out.trans hA); clear hg hS hA))
  go_ret
  exact ⟨rfl, A2.out⟩
set_option maxRecDepth 100000 in
set_option maxHeartbeats 1500000 in
theorem zero_bad (n0 n1 : Nat) (a : Option Addr) (x : List UInt8) (cap : Nat) (b : Option Addr) (y : List UInt8) (cap2 : Nat) (z : Int) (w : World) (hT : Tab w) (q r : Nat) (hr : r ≠ 0) (h0 : n0 = 0) (hX : ∀ w', Calls Tryd.prog 8 #[.int .u64 (n0 : Int), .int .u8 1, .slice a x.length cap] w' fun e w'' => e = .returned (.tuple #[.slice none 0 0, .int .i64 (q : Int)]) ∧ w'' = w') (hY : ∀ w', Calls Tryd.prog 8 #[.int .u64 (n1 : Int), .int .u8 2, .slice b y.length cap2] w' fun e w'' => e = .returned (.tuple #[.slice none 0 0, .int .i64 (r : Int)]) ∧ w'' = w') : Calls Tryd.prog 6 #[.int .u64 (n0 : Int), .int .u64 (n1 : Int), .slice a x.length cap, .slice b y.length cap2, .int .i64 z] w (Adding (.bool true) w) := by
  subst h0
  have HW := hid (works_any w hT)
  have HX := hid hX
  have HY := hid hY
  have hmk := make256
  have hrb : ((r : Int) != 0) = true := bne_iff_ne.2 (by omega)
  clear hT hX hY hr
  go_enter Tryd.func6, Tryd.ntmps6
  go_wp2_with (first
    | (go_at_call 10; refine HW.out.mono ?_; rintro e w1 ⟨rfl, hA⟩; have A1 := hid hA; clear hA)
    | (have MX := MX; go_at_call 8; refine (HY.out w1).mono ?_; rintro e _ ⟨rfl, hw⟩; rw [hw]; clear hw)
    | (go_at_call 8; refine (HX.out w1).mono ?_; rintro e _ ⟨rfl, hw⟩; rw [hw]; clear hw; have MX := hid trivial))
  go_ret
  exact ⟨rfl, A1.out.alloc _⟩
set_option maxRecDepth 100000 in
set_option maxHeartbeats 1500000 in
theorem ok_same (n0 n1 : Nat) (a : Option Addr) (x : List UInt8) (cap : Nat) (b : Option Addr) (y : List UInt8) (cap2 : Nat) (z : Int) (w : World) (hT : Tab w) (X Y : List UInt8) (h0 : n0 ≠ 0) (h1 : n0 = n1) (hX : ∀ w', Adds w w' → Calls Tryd.prog 8 #[.int .u64 (n0 : Int), .int .u8 1, .slice a x.length cap] w' (PWrap w' X)) (hY : ∀ w', Adds w w' → Calls Tryd.prog 8 #[.int .u64 (n1 : Int), .int .u8 2, .slice b y.length cap2] w' (PWrap w' Y)) : Calls Tryd.prog 6 #[.int .u64 (n0 : Int), .int .u64 (n1 : Int), .slice a x.length cap, .slice b y.length cap2, .int .i64 z] w (Adding (.bool true) w) := by
  subst h1
  have HW := hid (works_any w hT)
  have HX := hid hX
  have HY := hid hY
  have hnb : ((n0 : Int) == 0) = false := beq_eq_false_iff_ne.2 (by omega)
  clear hT hX hY h0
  go_enter Tryd.func6, Tryd.ntmps6
  go_wp2_with (first
    | (go_at_call 10; refine HW.out.mono ?_; rintro e w1 ⟨rfl, hA⟩; have A1 := hid hA; clear hA)
    | (go_at_call 8; refine (HY.out w2 A2.out).mono ?_; rintro e w3 ⟨gy, rfl, hg, hS, hA⟩; have A3 := hid (A2.out.trans hA); clear hg hS hA)
    | (go_at_call 8; refine (HX.out w1 A1.out).mono ?_; rintro e w2 ⟨gx, rfl, hg, hS, hA⟩; have A2 := hid (A1.out.trans hA); clear hg hS hA))
  go_ret
  exact ⟨rfl, A3.out⟩
end SWh
end Go.Proofs.YtahbggdidhmnfaaDoor
