/- The walk of CrcSums. -/
import Derived.Test.YtikeplkbiajcgaaDoorWorks
namespace Go.Proofs.YtikeplkbiajcgaaDoor
open Go.RowKit

namespace Sms
set_option maxRecDepth 100000 in
set_option maxHeartbeats 2000000 in
theorem walk (a : Option Addr) (bs : List UInt8) (cap : Nat) (w : World) (hlen : bs.length ≤ 9223372036854775807) (hT : Tab w) (hA : At w a bs) : Calls Tryd.prog 3 #[.slice a bs.length cap] w (Adding (.bool true) w) := by
  have H1 := hid (sum_any a bs cap w hlen hT hA)
  have H2 := hid (rsum_any a bs cap w hlen hA)
  have H3 := hid (works_any w hT)
  clear hT hA
  by_cases h : 5000 < bs.length
  · go_enter Tryd.func3, Tryd.ntmps3
    go_wp2
    go_ret
    exact ⟨rfl, Touch.refl _ w⟩
  · go_enter Tryd.func3, Tryd.ntmps3
    go_wp2_with (first
      | (go_at_call 9; refine H1.out.mono ?_; rintro e _ ⟨rfl, hw⟩; rw [hw]; clear hw)
      | (go_at_call 10; refine H2.out.mono ?_; rintro e _ ⟨rfl, hw⟩; rw [hw]; clear hw)
      | (go_at_call 11; refine H3.out.mono ?_; rintro e w1 ⟨rfl, hA1⟩))
    go_ret
    exact ⟨rfl, hA1⟩
end Sms
end Go.Proofs.YtikeplkbiajcgaaDoor
