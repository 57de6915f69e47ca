/- How many bytes all pieces of a group have. -/
import Derived.Test.YtlgbgedkedddaaaDoorWLeaf
namespace Go.Proofs.YtlgbgedkedddaaaDoor
open Go.RowKit

set_option maxRecDepth 100000 in
theorem W.need_le (b : List UInt8) : W.need b ≤ 4294967299 := by
  unfold W.need M.fixedR
  have h1 := M.takeR_len (M.clamp 4) ⟨0, b.take 4⟩
  rw [show M.clamp 4 = 4 from rfl] at *
  have h2 := (M.fix_unfix _ (M.takeR 4 ⟨0, b.take 4⟩).1 rfl).2
  have h3 : 256 ^ (M.takeR 4 ⟨0, b.take 4⟩).1.length ≤ 256 ^ 4 := Nat.pow_le_pow_right (by decide) h1
  simp only
  omega
set_option maxRecDepth 100000 in
set_option maxHeartbeats 1000000 in
theorem wholeOf_any (a : Option Addr) (bs : List UInt8) (n cap : Nat) (hn : bs.length = n) (w : World) (hcap : a = none → cap = 0) (hc : n ≤ cap) (hA : At w a bs) : Calls Tryd.prog 45 #[.slice a n cap] w (Adding (.int .u64 (W.need bs : Int)) w) := by
  obtain ⟨m, hm⟩ : ∃ m, m = (bs.take 4).length := ⟨_, rfl⟩
  have hm2 : m = min 4 n := by rw [hm, List.length_take, hn]
  have HR := hid (show Calls Tryd.prog 53 #[.slice a m cap] w (PRead w (bs.take 4)) by rw [hm]; exact read_any a (bs.take 4) cap w (by omega) hcap (hA.pre 4))
  obtain ⟨x, hx⟩ : ∃ x, x = (M.fixedR 4 ⟨0, bs.take 4⟩).1 := ⟨_, rfl⟩
  have hx2 := W.need_le bs
  have HX := hid (show W.need bs = 4 + x by rw [W.need, hx])
  rw [HX.out] at hx2
  have HF := hid (fun w1 p (h : RD w1 (Ptr p) ⟨0, bs.take 4⟩) => show Calls Tryd.prog 67 #[Ptr p, .int .i64 4] w1 (PR w1 (Ptr p) (.int .u64 (x : Int)) (M.fixedR 4 ⟨0, bs.take 4⟩).2) by rw [hx]; exact fixed_any 4 h)
  clear hcap hA hx hm hn
  by_cases h4 : n < 4
  · obtain rfl : m = n := by omega
    clear hm2
    have h4' : (m : Int) < 4 := by omega
    go_enter Tryd.func45, Tryd.ntmps45
    go_wp2_with (first
      | (go_at_call 53; refine HR.out.mono ?_; rintro e w1 ⟨p, rfl, hp, hr, hA1⟩; have H1 := hid (And.intro hp (And.intro hr hA1)); clear hp hr hA1)
      | (go_at_call 67; refine (HF.out w1 p H1.out.2.1).mono ?_; rintro e w2 ⟨rfl, hr2, hT2⟩; have H2 := hid (Adds.own H1.out.2.2 hT2 H1.out.1); clear hr2 hT2))
    go_ret
    refine ⟨?_, H2.out⟩
    rw [HX.out]
    go_num
  · obtain rfl : m = 4 := by omega
    have h4' : ¬ (n : Int) < 4 := by omega
    clear hm2
    go_enter Tryd.func45, Tryd.ntmps45
    go_wp2_with (first
      | (go_at_call 53; refine HR.out.mono ?_; rintro e w1 ⟨p, rfl, hp, hr, hA1⟩; have H1 := hid (And.intro hp (And.intro hr hA1)); clear hp hr hA1)
      | (go_at_call 67; refine (HF.out w1 p H1.out.2.1).mono ?_; rintro e w2 ⟨rfl, hr2, hT2⟩; have H2 := hid (Adds.own H1.out.2.2 hT2 H1.out.1); clear hr2 hT2))
    go_ret
    refine ⟨?_, H2.out⟩
    rw [HX.out]
    go_num
end Go.Proofs.YtlgbgedkedddaaaDoor
