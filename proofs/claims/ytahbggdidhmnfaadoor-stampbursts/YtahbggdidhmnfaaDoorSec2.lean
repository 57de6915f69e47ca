/- A sector's body and what is behind it; bytes.Equal; whether a byte is not 0. -/
import Derived.Test.YtahbggdidhmnfaaDoorSec
namespace Go.Proofs.YtahbggdidhmnfaaDoor
open Go.RowKit

theorem adds_drewN (w : World) (n : Nat) : Adds w (w.drewN n) := ⟨rfl, rfl, rfl, Nat.le_refl _, fun _ _ _ => rfl⟩

set_option maxHeartbeats 1000000 in
theorem body_any (g : Nat) (cs : List UInt8) (w : World) (h : Sec w g cs) (hn : M.lenOf cs ≤ 233) : Calls Tryd.prog 26 #[Ptr g] w (Adding (.slice (some ⟨g, if M.lenOf cs = 0 then 0 else 10, none⟩) (M.lenOf cs) (M.lenOf cs)) w) := by
  obtain ⟨m, hm⟩ : ∃ m, m = 10 + M.lenOf cs := ⟨_, rfl⟩
  have hs : ∀ w, (Instr.sliceAt 43 (.pointer (some ⟨g, 0, none⟩)) (some (.int .i64 10)) (some (.int .i64 (m : Int))) (some (.int .i64 (m : Int)))).run Tryd.prog w = .ok (.slice (some ⟨g, if m = 10 then 0 else 10, none⟩) (m - 10) (m - 10)) w := fun w => slice43 g 10 m m (by omega) (by omega) (by omega) w
  have HB := hid (fun w' (hA : Adds w w') => bodyEnd_any g cs w' (h.adds hA))
  rw [← hm] at HB
  have HX := hid (show (.slice (some ⟨g, if m = 10 then 0 else 10, none⟩) (m - 10) (m - 10) : Value) = .slice (some ⟨g, if M.lenOf cs = 0 then 0 else 10, none⟩) (M.lenOf cs) (M.lenOf cs) by
    rw [show m - 10 = M.lenOf cs by omega]
    by_cases h0 : M.lenOf cs = 0
    · rw [if_pos h0, if_pos (by omega)]
    · rw [if_neg h0, if_neg (by omega)])
  have hm2 : m ≤ 243 := by omega
  have hm3 : 10 ≤ m := by omega
  rw [← HX.out]
  clear h hm
  generalize (if m = 10 then 0 else 10) = o at *
  go_enter Tryd.func26, Tryd.ntmps26
  go_upto_region 1 with (fail)
  go_quiet (first | (go_at_call 41; refine Calls.quiet_of_same (HB.out _ (adds_drewN _ _))))
  go_wp2
  go_ret
  exact ⟨rfl, adds_drewN _ _⟩
set_option maxHeartbeats 1000000 in
theorem behind_any (g : Nat) (cs : List UInt8) (w : World) (h : Sec w g cs) (hn : M.lenOf cs ≤ 233) : Calls Tryd.prog 37 #[Ptr g] w (Adding (.slice (some ⟨g, 10 + M.lenOf cs, none⟩) (234 - M.lenOf cs) (234 - M.lenOf cs)) w) := by
  obtain ⟨m, hm⟩ : ∃ m, m = 10 + M.lenOf cs := ⟨_, rfl⟩
  have hs : ∀ w, (Instr.sliceAt 43 (.pointer (some ⟨g, 0, none⟩)) (some (.int .i64 (m : Int))) (some (.int .i64 244)) (some (.int .i64 244))).run Tryd.prog w = .ok (.slice (some ⟨g, m, none⟩) (244 - m) (244 - m)) w := fun w => by
    have h := slice43 g m 244 244 (by omega) (by omega) (by omega) w
    rw [if_neg (by omega)] at h
    exact h
  have HB := hid (fun w' (hA : Adds w w') => bodyEnd_any g cs w' (h.adds hA))
  rw [← hm] at HB
  rw [← hm, show 234 - M.lenOf cs = 244 - m by omega]
  have hm2 : m ≤ 243 := by omega
  clear h hm
  go_enter Tryd.func37, Tryd.ntmps37
  go_upto_region 1 with (fail)
  go_quiet (first | (go_at_call 41; refine Calls.quiet_of_same (HB.out _ (adds_drewN _ _))))
  go_wp2
  go_ret
  exact ⟨rfl, adds_drewN _ _⟩

theorem str_eq (x y : List UInt8) : (x == y) = decide (x = y) := by
  by_cases h : x = y
  · subst h; simp
  · rw [decide_eq_false h, beq_eq_false_iff_ne]; exact h
set_option maxHeartbeats 400000 in
theorem equal_any (a : Option Addr) (xs : List UInt8) (c : Nat) (b : Option Addr) (ys : List UInt8) (d : Nat) (w : World) (hA : At w a xs) (hB : At w b ys) : Calls Tryd.prog 34 #[.slice a xs.length c, .slice b ys.length d] w (Tells (.bool (decide (xs = ys))) w) := by
  have h1 := conv_at w a xs c hA
  have h2 := conv_at w b ys d hB
  have HE := hid (str_eq xs ys)
  clear hA hB
  go_enter Tryd.func34, Tryd.ntmps34
  go_wp2
  go_ret
  exact ⟨by rw [← HE.out]; rfl, rfl⟩
set_option maxHeartbeats 400000 in
theorem not0_any (c : UInt8) (z : Bool) (hz : (c != 0) = z) (w : World) : Calls Tryd.prog 38 #[.int .u8 (c.toNat : Int)] w (Tells (.bool z) w) := by
  by_cases h : c = 0
  · subst h
    obtain rfl : false = z := hz
    go_enter Tryd.func38, Tryd.ntmps38
    go_wp2
    go_ret
    exact ⟨rfl, rfl⟩
  · obtain rfl : true = z := by rw [← hz]; simp [h]
    have hn : ¬ (c.toNat : Int) = 0 := by
      intro e
      exact h (UInt8.toNat_inj.1 (by simpa using (show c.toNat = 0 by omega)))
    go_enter Tryd.func38, Tryd.ntmps38
    go_wp2
    go_ret
    refine ⟨?_, rfl⟩
    show Ending.returned (.bool (!decide ((c.toNat : Int) = 0))) = _
    rw [decide_eq_false hn]; rfl
theorem some0_take {cs : List UInt8} {i : Nat} {c : UInt8} (h : cs[i]? = some c) (hI : M.some0 (cs.take i) = false) (hz : (c != 0) = false) : M.some0 (cs.take (i + 1)) = false := by
  unfold M.some0 at *
  rw [take_next h, List.any_append, hI]
  simp [hz]
theorem some0_yes {cs : List UInt8} {i : Nat} {c : UInt8} (h : cs[i]? = some c) (hz : (c != 0) = true) : M.some0 cs = true := by
  unfold M.some0
  rw [List.any_eq_true]
  exact ⟨c, List.mem_of_getElem? h, hz⟩
/-- A place, or none. -/
def PIdx (z : Bool) (w : World) (e : Ending) (w' : World) : Prop := ∃ n : Int, e = .returned (.int .i64 n) ∧ decide (0 ≤ n) = z ∧ w' = w
set_option maxRecDepth 100000 in
set_option maxHeartbeats 1000000 in
theorem index_any (a : Option Addr) (cs : List UInt8) (cap : Nat) (w : World) (hA : At w a cs) (hl : cs.length ≤ 1000) : Calls Tryd.prog 47 #[.slice a cs.length cap, .func (.func 38) #[] #[]] w (PIdx (M.some0 cs) w) := by
  have HA := hid hA
  clear hA
  go_enter Tryd.func47, Tryd.ntmps47
  go_wp2_with fail
  go_loopw [8] (fun iv wr => ∃ i : Nat, iv = .int .i64 (i : Int) ∧ i ≤ cs.length ∧ Hid (M.some0 (cs.take i) = false) ∧ wr = w) (fun iv _ => cs.length - (intOf iv).toNat)
  case atStart => exact ⟨0, rfl, Nat.zero_le _, hid (show M.some0 (cs.take 0) = false from rfl), rfl⟩
  case round =>
    obtain ⟨i, rfl, hi, HI, hw⟩ := hrel
    obtain rfl := hw.symm
    by_cases hlt : i < cs.length
    · have hltz : (i : Int) < (cs.length : Int) := by omega
      obtain ⟨c, hc⟩ : ∃ c, cs[i]? = some c := ⟨cs[i], List.getElem?_eq_getElem hlt⟩
      obtain ⟨b, o, ea, c0⟩ := HA.out i c hc
      subst ea
      obtain ⟨z, hz⟩ : ∃ z, (c != 0) = z := ⟨_, rfl⟩
      have HZ := hid (And.intro hz hc)
      have HC := hid (not0_any c z hz w)
      clear hz hc
      cases z with
      | false =>
        go_wp2_with (first | (go_at_call 38; refine HC.out.mono ?_; rintro e _ ⟨rfl, hw⟩; rw [hw]; clear hw))
        go_roundw
        case rel => exact ⟨i + 1, by go_num, by omega, some0_take HZ.out.2 HI.out HZ.out.1, by first | rfl | trivial⟩
        case measure => simp [intOf]; omega
      | true =>
        go_wp2_with (first | (go_at_call 38; refine HC.out.mono ?_; rintro e _ ⟨rfl, hw⟩; rw [hw]; clear hw))
        go_ret
        exact ⟨(i : Int), rfl, by rw [some0_yes HZ.out.2 HZ.out.1]; exact decide_eq_true (Int.natCast_nonneg i), rfl⟩
    · have hltz : ¬ (i : Int) < (cs.length : Int) := by omega
      have HN := hid (show M.some0 cs = false by have := HI.out; rw [List.take_of_length_le (by omega)] at this; exact this)
      go_wp2_with fail
      go_ret
      exact ⟨-1, rfl, by rw [HN.out]; rfl, rfl⟩
set_option maxHeartbeats 400000 in
theorem contains_any (a : Option Addr) (cs : List UInt8) (cap : Nat) (w : World) (hA : At w a cs) (hl : cs.length ≤ 1000) : Calls Tryd.prog 36 #[.slice a cs.length cap, .func (.func 38) #[] #[]] w (Tells (.bool (M.some0 cs)) w) := by
  have H := hid (index_any a cs cap w hA hl)
  clear hA
  go_enter Tryd.func36, Tryd.ntmps36
  go_wp2_with (first | (go_at_call 47; refine H.out.mono ?_; rintro e _ ⟨n, rfl, hn, hw⟩; rw [hw]; clear hw; have HN := hid hn; clear hn))
  go_ret
  exact ⟨by rw [← HN.out]; rfl, rfl⟩
end Go.Proofs.YtahbggdidhmnfaaDoor
