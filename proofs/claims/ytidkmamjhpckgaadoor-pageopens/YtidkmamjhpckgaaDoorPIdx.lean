/- A place of a byte that is not 0. -/
import Derived.Test.YtidkmamjhpckgaaDoorPMem
namespace Go.Proofs.YtidkmamjhpckgaaDoor
open Go.RowKit

set_option maxRecDepth 100000 in
set_option maxHeartbeats 400000 in
theorem not0_any (c : UInt8) (z : Bool) (hz : (c != 0) = z) (w : World) : Calls Tryd.prog 43 #[.int .u8 (c.toNat : Int)] w (Tells (.bool z) w) := by
  by_cases h : c = 0
  · subst h
    obtain rfl : false = z := hz
    go_enter Tryd.func43, Tryd.ntmps43
    go_wp2
    go_ret
    exact ⟨rfl, rfl⟩
  · obtain rfl : true = z := by rw [← hz]; simp [h]
    have hn : ¬ (c.toNat : Int) = 0 := by
      intro e
      exact h (UInt8.toNat_inj.1 (by simpa using (show c.toNat = 0 by omega)))
    go_enter Tryd.func43, Tryd.ntmps43
    go_wp2
    go_ret
    refine ⟨?_, rfl⟩
    show Ending.returned (.bool (!decide ((c.toNat : Int) = 0))) = _
    rw [decide_eq_false hn]; rfl
set_option maxRecDepth 100000 in
theorem some0_take {cs : List UInt8} {i : Nat} {c : UInt8} (h : cs[i]? = some c) (hI : M.some0 (cs.take i) = false) (hz : (c != 0) = false) : M.some0 (cs.take (i + 1)) = false := by
  unfold M.some0 at *
  rw [take_next h, List.any_append, hI]
  simp [hz]
set_option maxRecDepth 100000 in
theorem some0_yes {cs : List UInt8} {i : Nat} {c : UInt8} (h : cs[i]? = some c) (hz : (c != 0) = true) : M.some0 cs = true := by
  unfold M.some0
  rw [List.any_eq_true]
  exact ⟨c, List.mem_of_getElem? h, hz⟩
/-- A place, or none. -/
def PIdx (z : Bool) (w : World) (e : Ending) (w' : World) : Prop := ∃ n : Int, e = .returned (.int .i64 n) ∧ decide (0 ≤ n) = z ∧ w' = w
set_option maxRecDepth 100000 in
set_option maxHeartbeats 1000000 in
theorem index_any (a : Option Addr) (cs : List UInt8) (cap : Nat) (w : World) (hA : At w a cs) (hl : cs.length ≤ 1000) : Calls Tryd.prog 51 #[.slice a cs.length cap, .func (.func 43) #[] #[]] w (PIdx (M.some0 cs) w) := by
  have HA := hid hA
  clear hA
  go_enter Tryd.func51, Tryd.ntmps51
  go_wp2_with fail
  go_loopw [8] (fun iv wr => ∃ i : Nat, iv = .int .i64 (i : Int) ∧ i ≤ cs.length ∧ Hid (M.some0 (cs.take i) = false) ∧ wr = w) (fun iv _ => cs.length - (intOf iv).toNat)
  case atStart => exact ⟨0, rfl, Nat.zero_le _, hid (show M.some0 (cs.take 0) = false from rfl), rfl⟩
  case round =>
    obtain ⟨i, rfl, hi, HI, hw⟩ := hrel
    obtain rfl := hw.symm
    by_cases hlt : i < cs.length
    · have hltz : (i : Int) < (cs.length : Int) := by omega
      obtain ⟨c, hc⟩ : ∃ c, cs[i]? = some c := ⟨cs[i], List.getElem?_eq_getElem hlt⟩
      obtain ⟨b, o, ea, c0⟩ := HA.out i c hc
      subst ea
      obtain ⟨z, hz⟩ : ∃ z, (c != 0) = z := ⟨_, rfl⟩
      have HZ := hid (And.intro hz hc)
      have HC := hid (not0_any c z hz w)
      clear hz hc
      cases z with
      | false =>
        go_wp2_with (first | (go_at_call 43; refine HC.out.mono ?_; rintro e _ ⟨rfl, hw⟩; rw [hw]; clear hw))
        go_roundw
        case rel => exact ⟨i + 1, by go_num, by omega, some0_take HZ.out.2 HI.out HZ.out.1, by first | rfl | trivial⟩
        case measure => simp [intOf]; omega
      | true =>
        go_wp2_with (first | (go_at_call 43; refine HC.out.mono ?_; rintro e _ ⟨rfl, hw⟩; rw [hw]; clear hw))
        go_ret
        exact ⟨(i : Int), rfl, by rw [some0_yes HZ.out.2 HZ.out.1]; exact decide_eq_true (Int.natCast_nonneg i), rfl⟩
    · have hltz : ¬ (i : Int) < (cs.length : Int) := by omega
      have HN := hid (show M.some0 cs = false by have := HI.out; rw [List.take_of_length_le (by omega)] at this; exact this)
      go_wp2_with fail
      go_ret
      exact ⟨-1, rfl, by rw [HN.out]; rfl, rfl⟩
set_option maxRecDepth 100000 in
set_option maxHeartbeats 400000 in
theorem contains_any (a : Option Addr) (cs : List UInt8) (cap : Nat) (w : World) (hA : At w a cs) (hl : cs.length ≤ 1000) : Calls Tryd.prog 42 #[.slice a cs.length cap, .func (.func 43) #[] #[]] w (Tells (.bool (M.some0 cs)) w) := by
  have H := hid (index_any a cs cap w hA hl)
  clear hA
  go_enter Tryd.func42, Tryd.ntmps42
  go_wp2_with (first | (go_at_call 51; refine H.out.mono ?_; rintro e _ ⟨n, rfl, hn, hw⟩; rw [hw]; clear hw; have HN := hid hn; clear hn))
  go_ret
  exact ⟨by rw [← HN.out]; rfl, rfl⟩
end Go.Proofs.YtidkmamjhpckgaaDoor
