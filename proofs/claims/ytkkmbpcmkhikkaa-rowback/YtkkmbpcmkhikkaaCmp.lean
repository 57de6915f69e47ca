/- Numbers, texts and floats compared. -/
import Derived.Test.YtkkmbpcmkhikkaaPlain
namespace Go.Proofs.Ytkkmbpcmkhikkaa
open Go.RowKit

set_option maxHeartbeats 400000 in
theorem nan58 (x : Int) (w : World) : Calls Try.prog 57 #[.int .i64 x] w fun e w' => e = .returned (.bool false) ∧ w' = w := by
  go_enter Try.func57, Try.ntmps57
  go_wp2
  go_ret
  exact ⟨rfl, rfl⟩
set_option maxHeartbeats 400000 in
theorem nan62 (x : Int) (w : World) : Calls Try.prog 62 #[.int .i64 x] w fun e w' => e = .returned (.bool false) ∧ w' = w := by
  go_enter Try.func62, Try.ntmps62
  go_wp2
  go_ret
  exact ⟨rfl, rfl⟩
set_option maxHeartbeats 400000 in
theorem nan61 (t : List UInt8) (w : World) : Calls Try.prog 61 #[.string ⟨t.toArray⟩] w fun e w' => e = .returned (.bool false) ∧ w' = w := by
  go_enter Try.func61, Try.ntmps61
  go_wp2
  go_ret
  exact ⟨rfl, rfl⟩
set_option maxHeartbeats 400000 in
theorem nan72 (b : Nat) (w : World) : Calls Try.prog 73 #[.float .f64 b] w fun e w' => e = .returned (.bool (M.nan b)) ∧ w' = w := by
  have hn : (FloatKind.f64.format.order b b != some .eq) = M.nan b := rfl
  go_enter Try.func73, Try.ntmps73
  go_wp2
  go_ret
  exact ⟨rfl, rfl⟩
set_option maxHeartbeats 400000 in
theorem cmp43 (x y : Int) (w : World) : Calls Try.prog 41 #[.int .i64 x, .int .i64 y] w fun e w' => e = .returned (.int .i64 (M.cmp3 x y)) ∧ w' = w := by
  unfold M.cmp3
  by_cases h1 : x < y
  · rw [if_pos h1]
    go_enter Try.func41, Try.ntmps41
    go_wp2_with (first | (go_at_call 57; refine (nan58 _ _).mono ?_; rintro e w' ⟨rfl, hw⟩; obtain rfl := hw.symm))
    go_ret
    exact ⟨rfl, rfl⟩
  · rw [if_neg h1]
    by_cases h2 : y < x
    · rw [if_pos h2]
      go_enter Try.func41, Try.ntmps41
      go_wp2_with (first | (go_at_call 57; refine (nan58 _ _).mono ?_; rintro e w' ⟨rfl, hw⟩; obtain rfl := hw.symm))
      go_ret
      exact ⟨rfl, rfl⟩
    · rw [if_neg h2]
      go_enter Try.func41, Try.ntmps41
      go_wp2_with (first | (go_at_call 57; refine (nan58 _ _).mono ?_; rintro e w' ⟨rfl, hw⟩; obtain rfl := hw.symm))
      go_ret
      exact ⟨rfl, rfl⟩
set_option maxHeartbeats 400000 in
theorem cmp46 (x y : Int) (w : World) : Calls Try.prog 45 #[.int .i64 x, .int .i64 y] w fun e w' => e = .returned (.int .i64 (M.cmp3 x y)) ∧ w' = w := by
  unfold M.cmp3
  by_cases h1 : x < y
  · rw [if_pos h1]
    go_enter Try.func45, Try.ntmps45
    go_wp2_with (first | (go_at_call 62; refine (nan62 _ _).mono ?_; rintro e w' ⟨rfl, hw⟩; obtain rfl := hw.symm))
    go_ret
    exact ⟨rfl, rfl⟩
  · rw [if_neg h1]
    by_cases h2 : y < x
    · rw [if_pos h2]
      go_enter Try.func45, Try.ntmps45
      go_wp2_with (first | (go_at_call 62; refine (nan62 _ _).mono ?_; rintro e w' ⟨rfl, hw⟩; obtain rfl := hw.symm))
      go_ret
      exact ⟨rfl, rfl⟩
    · rw [if_neg h2]
      go_enter Try.func45, Try.ntmps45
      go_wp2_with (first | (go_at_call 62; refine (nan62 _ _).mono ?_; rintro e w' ⟨rfl, hw⟩; obtain rfl := hw.symm))
      go_ret
      exact ⟨rfl, rfl⟩
set_option maxHeartbeats 400000 in
theorem cmp45 (x y : List UInt8) (w : World) : Calls Try.prog 44 #[.string ⟨x.toArray⟩, .string ⟨y.toArray⟩] w fun e w' => e = .returned (.int .i64 (M.tcmp x y)) ∧ w' = w := by
  unfold M.tcmp
  by_cases h1 : Op.bytesLess x y = true
  · rw [if_pos h1]
    go_enter Try.func44, Try.ntmps44
    go_wp2_with (first | (go_at_call 61; refine (nan61 _ _).mono ?_; rintro e w' ⟨rfl, hw⟩; obtain rfl := hw.symm))
    go_ret
    exact ⟨rfl, rfl⟩
  · rw [if_neg h1]
    have h1' : Op.bytesLess x y = false := Bool.eq_false_iff.2 h1
    clear h1
    by_cases h2 : (x == y) = true
    · rw [if_pos h2]
      go_enter Try.func44, Try.ntmps44
      go_wp2_with (first | (go_at_call 61; refine (nan61 _ _).mono ?_; rintro e w' ⟨rfl, hw⟩; obtain rfl := hw.symm))
      go_ret
      exact ⟨rfl, rfl⟩
    · rw [if_neg h2]
      have h2' : (x == y) = false := Bool.eq_false_iff.2 h2
      clear h2
      go_enter Try.func44, Try.ntmps44
      go_wp2_with (first | (go_at_call 61; refine (nan61 _ _).mono ?_; rintro e w' ⟨rfl, hw⟩; obtain rfl := hw.symm))
      go_ret
      exact ⟨rfl, rfl⟩
/-- How the language's own comparison has two floats: each NaN below. -/
def lowNaN (a b : Nat) : Int := if M.nan a then (if M.nan b then 0 else -1) else if M.nan b then 1 else M.fcmp a b
set_option maxHeartbeats 400000 in
theorem cmp60 (a b : Nat) (w : World) : Calls Try.prog 60 #[.float .f64 a, .float .f64 b] w fun e w' => e = .returned (.int .i64 (lowNaN a b)) ∧ w' = w := by
  have HF := hid (@M.fcmp_num a b)
  unfold lowNaN
  by_cases ha : M.nan a = true
  · rw [if_pos ha]
    by_cases hb : M.nan b = true
    · rw [if_pos hb]
      go_enter Try.func60, Try.ntmps60
      go_wp2_with (first | (go_at_call 73; refine (nan72 _ _).mono ?_; rintro e w' ⟨rfl, hw⟩; obtain rfl := hw.symm))
      go_ret
      exact ⟨rfl, rfl⟩
    · rw [if_neg hb]
      have hb' : M.nan b = false := Bool.eq_false_iff.2 hb
      clear hb
      go_enter Try.func60, Try.ntmps60
      go_wp2_with (first | (go_at_call 73; refine (nan72 _ _).mono ?_; rintro e w' ⟨rfl, hw⟩; obtain rfl := hw.symm))
      go_ret
      exact ⟨rfl, rfl⟩
  · rw [if_neg ha]
    have ha' : M.nan a = false := Bool.eq_false_iff.2 ha
    clear ha
    by_cases hb : M.nan b = true
    · rw [if_pos hb]
      go_enter Try.func60, Try.ntmps60
      go_wp2_with (first | (go_at_call 73; refine (nan72 _ _).mono ?_; rintro e w' ⟨rfl, hw⟩; obtain rfl := hw.symm))
      go_ret
      exact ⟨rfl, rfl⟩
    · rw [if_neg hb]
      have hb' : M.nan b = false := Bool.eq_false_iff.2 hb
      clear hb
      rw [HF.out ha' hb']
      clear HF
      by_cases h1 : (Ieee.double.order a b == some .lt) = true
      · rw [if_pos h1]
        have h1' : (FloatKind.f64.format.order a b == some .lt) = true := h1
        clear h1
        go_enter Try.func60, Try.ntmps60
        go_wp2_with (first | (go_at_call 73; refine (nan72 _ _).mono ?_; rintro e w' ⟨rfl, hw⟩; obtain rfl := hw.symm))
        go_ret
        exact ⟨rfl, rfl⟩
      · rw [if_neg h1]
        have h1' : (FloatKind.f64.format.order a b == some .lt) = false := Bool.eq_false_iff.2 h1
        clear h1
        by_cases h2 : (Ieee.double.order a b == some .gt) = true
        · rw [if_pos h2]
          have h2' : (FloatKind.f64.format.order a b == some .gt) = true := h2
          clear h2
          go_enter Try.func60, Try.ntmps60
          go_wp2_with (first | (go_at_call 73; refine (nan72 _ _).mono ?_; rintro e w' ⟨rfl, hw⟩; obtain rfl := hw.symm))
          go_ret
          exact ⟨rfl, rfl⟩
        · rw [if_neg h2]
          have h2' : (FloatKind.f64.format.order a b == some .gt) = false := Bool.eq_false_iff.2 h2
          clear h2
          go_enter Try.func60, Try.ntmps60
          go_wp2_with (first | (go_at_call 73; refine (nan72 _ _).mono ?_; rintro e w' ⟨rfl, hw⟩; obtain rfl := hw.symm))
          go_ret
          exact ⟨rfl, rfl⟩
set_option maxHeartbeats 400000 in
theorem cmpFloats_any (a b : Nat) (w : World) : Calls Try.prog 43 #[.float .f64 a, .float .f64 b] w fun e w' => e = .returned (.int .i64 (M.fcmp a b)) ∧ w' = w := by
  have HC := hid (cmp60 a b)
  by_cases ha : M.nan a = true
  · by_cases hb : M.nan b = true
    · rw [M.fcmp_nan3 ha hb]
      rw [lowNaN, if_pos ha, if_pos hb] at HC
      go_enter Try.func43, Try.ntmps43
      go_wp2_with (first | (go_at_call 59; refine (isNaN_any _ _).mono ?_; rintro e w' ⟨rfl, hw⟩; obtain rfl := hw.symm) | (go_at_call 60; refine (HC.out _).mono ?_; rintro e w' ⟨rfl, hw⟩; obtain rfl := hw.symm))
      go_ret
      exact ⟨rfl, rfl⟩
    · have hb' : M.nan b = false := Bool.eq_false_iff.2 hb
      rw [M.fcmp_nan1 ha hb']
      rw [lowNaN, if_pos ha, if_neg hb] at HC
      clear hb
      go_enter Try.func43, Try.ntmps43
      go_wp2_with (first | (go_at_call 59; refine (isNaN_any _ _).mono ?_; rintro e w' ⟨rfl, hw⟩; obtain rfl := hw.symm) | (go_at_call 60; refine (HC.out _).mono ?_; rintro e w' ⟨rfl, hw⟩; obtain rfl := hw.symm))
      go_ret
      exact ⟨rfl, rfl⟩
  · have ha' : M.nan a = false := Bool.eq_false_iff.2 ha
    by_cases hb : M.nan b = true
    · rw [M.fcmp_nan2 ha' hb]
      rw [lowNaN, if_neg ha, if_pos hb] at HC
      clear ha
      go_enter Try.func43, Try.ntmps43
      go_wp2_with (first | (go_at_call 59; refine (isNaN_any _ _).mono ?_; rintro e w' ⟨rfl, hw⟩; obtain rfl := hw.symm) | (go_at_call 60; refine (HC.out _).mono ?_; rintro e w' ⟨rfl, hw⟩; obtain rfl := hw.symm))
      go_ret
      exact ⟨rfl, rfl⟩
    · have hb' : M.nan b = false := Bool.eq_false_iff.2 hb
      rw [lowNaN, if_neg ha, if_neg hb] at HC
      clear ha hb
      go_enter Try.func43, Try.ntmps43
      go_wp2_with (first | (go_at_call 59; refine (isNaN_any _ _).mono ?_; rintro e w' ⟨rfl, hw⟩; obtain rfl := hw.symm) | (go_at_call 60; refine (HC.out _).mono ?_; rintro e w' ⟨rfl, hw⟩; obtain rfl := hw.symm))
      go_ret
      exact ⟨rfl, rfl⟩
end Go.Proofs.Ytkkmbpcmkhikkaa
