/- The walk of StampWhole, put together. -/
import Derived.Test.YtahbggdidhmnfaaDoorSWhole1
import Derived.Test.YtahbggdidhmnfaaDoorSWhole2
namespace Go.Proofs.YtahbggdidhmnfaaDoor
open Go.RowKit

namespace SWh
theorem unfix8 {n : Nat} (h : n < 18446744073709551616) : M.unfix (M.fix n 8) = n := by rw [M.unfix_fix, Nat.mod_eq_of_lt (by omega)]
theorem fix_ne {n m : Nat} (hn : n < 18446744073709551616) (hm : m < 18446744073709551616) (h : n ≠ m) : M.fix n 8 ≠ M.fix m 8 := by
  intro e
  have := congrArg M.unfix e
  rw [unfix8 hn, unfix8 hm] at this
  exact h this
theorem rep_ne {m : Nat} (hm : m < 18446744073709551616) (h : m ≠ 0) : List.replicate 8 0 ≠ M.fix m 8 := by
  intro e
  have := congrArg M.unfix e
  rw [unfix8 hm] at this
  exact h (this.symm.trans rfl)
theorem walk (n0 n1 : Nat) (k0 : n0 < 18446744073709551616) (k1 : n1 < 18446744073709551616) (a : Option Addr) (x : List UInt8) (cap : Nat) (b : Option Addr) (y : List UInt8) (cap2 : Nat) (z : Int) (w : World) (ca : a = none → cap = 0) (cb : b = none → cap2 = 0) (hT : Tab w) (hA : At w a x) (hB : At w b y) :
    Calls Tryd.prog 6 #[.int .u64 (n0 : Int), .int .u64 (n1 : Int), .slice a x.length cap, .slice b y.length cap2, .int .i64 z] w (Adding (.bool true) w) := by
  rcases wrap_all n0 1 (by decide) a x cap with ⟨h0, hx⟩ | ⟨q, hq, hX⟩
  · have gX : ∀ w', Adds w w' → Calls Tryd.prog 8 #[.int .u64 (n0 : Int), .int .u8 1, .slice a x.length cap] w' (PWrap w' (M.sector n0 1 x)) := fun w' h => swrap_ok n0 1 a x cap w' h0 (by decide) hx ca (hA.adds h) (hT.adds h)
    rcases wrap_all n1 2 (by decide) b y cap2 with ⟨h1, hy⟩ | ⟨r, hr, hY⟩
    · have gY : ∀ w', Adds w w' → Calls Tryd.prog 8 #[.int .u64 (n1 : Int), .int .u8 2, .slice b y.length cap2] w' (PWrap w' (M.sector n1 2 y)) := fun w' h => swrap_ok n1 2 b y cap2 w' h1 (by decide) hy cb (hB.adds h) (hT.adds h)
      by_cases h01 : n0 = n1
      · exact ok_same n0 n1 a x cap b y cap2 z w hT _ _ h0 h01 gX gY
      · have lx := M.len_sector n0 1 x hx
        have ly := M.len_sector n1 2 y hy
        by_cases ty : M.torn (M.sector n0 1 x) (M.sector n1 2 y) z = M.sector n1 2 y
        · obtain ⟨o1, o2, o3, o4⟩ := M.sector_opens n1 2 y (by omega) k1 (by decide) hy
          exact main_sec_y n0 n1 a x cap b y cap2 z w hT hA hB _ _ _ lx ly rfl _ _ _ _ rfl rfl rfl rfl h01 h0 gX gY ty (by rw [ty, o1]) (by rw [ty, o2]) (by rw [ty, o4])
        · by_cases tx : M.torn (M.sector n0 1 x) (M.sector n1 2 y) z = M.sector n0 1 x
          · obtain ⟨o1, o2, o3, o4⟩ := M.sector_opens n0 1 x (by omega) k0 (by decide) hx
            exact main_sec_x n0 n1 a x cap b y cap2 z w hT hA hB _ _ _ lx ly rfl _ _ _ _ rfl rfl rfl rfl h01 h0 gX gY tx (fun e => ty (tx.trans e)) (by rw [tx, o1]) (by rw [tx, o2]) (by rw [tx, o4])
          · have he := M.torn_whole lx ly (M.sector_take8 n0 1 x) (M.sector_drop248 n0 1 x hx) (M.sector_take8 n1 2 y) (M.sector_drop248 n1 2 y hy) (fix_ne k0 k1 h01) tx ty
            obtain ⟨r1, _, r3⟩ := M.refused he
            exact main_sec_no n0 n1 a x cap b y cap2 z w hT hA hB _ _ _ lx ly rfl _ _ _ _ rfl rfl rfl rfl h01 h0 gX gY tx ty he r1 r3
    · exact ok_bad n0 n1 a x cap b y cap2 z w hT r _ hr h0 gX hY
  · by_cases h0 : n0 = 0
    · rcases wrap_all n1 2 (by decide) b y cap2 with ⟨h1, hy⟩ | ⟨r, hr, hY⟩
      · have gY : ∀ w', Adds w w' → Calls Tryd.prog 8 #[.int .u64 (n1 : Int), .int .u8 2, .slice b y.length cap2] w' (PWrap w' (M.sector n1 2 y)) := fun w' h => swrap_ok n1 2 b y cap2 w' h1 (by decide) hy cb (hB.adds h) (hT.adds h)
        have h01 : n0 ≠ n1 := by omega
        have lx : (List.replicate 256 (0 : UInt8)).length = 256 := by rw [List.length_replicate]
        have ly := M.len_sector n1 2 y hy
        by_cases ty : M.torn (List.replicate 256 0) (M.sector n1 2 y) z = M.sector n1 2 y
        · obtain ⟨o1, o2, o3, o4⟩ := M.sector_opens n1 2 y (by omega) k1 (by decide) hy
          exact main_zero_y n0 n1 a x cap b y cap2 z w hT hA hB _ _ _ lx ly rfl _ _ _ _ rfl rfl rfl rfl h01 h0 rfl q hX gY ty (by rw [ty, o1]) (by rw [ty, o2]) (by rw [ty, o4])
        · by_cases tx : M.torn (List.replicate 256 0) (M.sector n1 2 y) z = List.replicate 256 0
          · exact main_zero_x n0 n1 a x cap b y cap2 z w hT hA hB _ _ _ lx ly rfl _ _ _ _ rfl rfl rfl rfl h01 h0 rfl q hX gY tx (fun e => ty (tx.trans e)) (by rw [tx, M.noughts_err])
          · have he := M.torn_whole lx ly (a := List.replicate 8 0) (by rw [List.take_replicate]; rfl) (by rw [M.rep_drop]) (M.sector_take8 n1 2 y) (M.sector_drop248 n1 2 y hy) (rep_ne k1 h1) tx ty
            obtain ⟨r1, _, r3⟩ := M.refused he
            exact main_zero_no n0 n1 a x cap b y cap2 z w hT hA hB _ _ _ lx ly rfl _ _ _ _ rfl rfl rfl rfl h01 h0 rfl q hX gY tx ty he r1 r3
      · exact zero_bad n0 n1 a x cap b y cap2 z w hT q r hr h0 hX hY
    · rcases wrap_all n1 2 (by decide) b y cap2 with ⟨h1, hy⟩ | ⟨r, hr, hY⟩
      · have gY : ∀ w', Adds w w' → Calls Tryd.prog 8 #[.int .u64 (n1 : Int), .int .u8 2, .slice b y.length cap2] w' (PWrap w' (M.sector n1 2 y)) := fun w' h => swrap_ok n1 2 b y cap2 w' h1 (by decide) hy cb (hB.adds h) (hT.adds h)
        exact bad_ok n0 n1 a x cap b y cap2 z w hT q _ hq h0 hX gY
      · exact bad_bad n0 n1 a x cap b y cap2 z w hT q r hq hr h0 hX hY
end SWh
end Go.Proofs.YtahbggdidhmnfaaDoor
