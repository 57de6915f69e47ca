/- Names. -/
import Derived.Test.YtlgchdpajfmpdaaKeep
import Derived.Test.YtlgchdpajfmpdaaSMath
namespace Go.Proofs.Ytlgchdpajfmpdaa
open Go.RowKit

/-- A call that tells something, and turns nothing that was there. -/
def Tells (w : World) (x : Value) (e : Ending) (w' : World) : Prop := e = .returned x ∧ Adds w w'

set_option maxHeartbeats 1000000 in
theorem mayStand_any (i : Nat) (c : UInt8) (w : World) : Calls Try.prog 25 #[.int .i64 (i : Int), .int .u8 (c.toNat : Int)] w fun e w' => e = .returned (.bool (M.stands i c)) ∧ w' = w := by
  unfold M.stands
  generalize c.toNat = n
  have hi : decide ((0 : Int) < (i : Int)) = decide (0 < i) := by rw [decide_eq_decide]; omega
  by_cases a1 : 97 ≤ n
  · have z1 : (97 : Int) ≤ (n : Int) := by omega
    by_cases a2 : n ≤ 122
    · have z2 : (n : Int) ≤ 122 := by omega
      rw [show (decide (97 ≤ n) && decide (n ≤ 122) || decide (n = 95) || decide (48 ≤ n) && decide (n ≤ 57) && decide (0 < i)) = true by simp [a1, a2]]
      clear a1 a2 hi
      go_enter Try.func25, Try.ntmps25
      go_wp2_with fail
      go_ret
      exact ⟨rfl, rfl⟩
    · have z2 : ¬ (n : Int) ≤ 122 := by omega
      have z3 : ((n : Int) == 95) = false := by simp; omega
      have z4 : (48 : Int) ≤ (n : Int) := by omega
      have z5 : ¬ (n : Int) ≤ 57 := by omega
      rw [show (decide (97 ≤ n) && decide (n ≤ 122) || decide (n = 95) || decide (48 ≤ n) && decide (n ≤ 57) && decide (0 < i)) = false by simp; omega]
      clear a1 a2 hi
      go_enter Try.func25, Try.ntmps25
      go_wp2_with fail
      go_ret
      exact ⟨rfl, rfl⟩
  · have z1 : ¬ (97 : Int) ≤ (n : Int) := by omega
    by_cases a3 : n = 95
    · subst a3
      simp only [decide_true, Bool.or_true, Bool.true_or]
      clear a1 z1 hi
      go_enter Try.func25, Try.ntmps25
      go_wp2_with fail
      go_ret
      exact ⟨rfl, rfl⟩
    · have z3 : ((n : Int) == 95) = false := by simp; omega
      by_cases a4 : 48 ≤ n
      · have z4 : (48 : Int) ≤ (n : Int) := by omega
        by_cases a5 : n ≤ 57
        · have z5 : (n : Int) ≤ 57 := by omega
          rw [show (decide (97 ≤ n) && decide (n ≤ 122) || decide (n = 95) || decide (48 ≤ n) && decide (n ≤ 57) && decide (0 < i)) = decide (0 < i) by simp [a1, a3, a4, a5]]
          rw [← hi]
          clear a1 a3 a4 a5 hi
          go_enter Try.func25, Try.ntmps25
          go_wp2_with fail
          go_ret
          exact ⟨rfl, rfl⟩
        · have z5 : ¬ (n : Int) ≤ 57 := by omega
          rw [show (decide (97 ≤ n) && decide (n ≤ 122) || decide (n = 95) || decide (48 ≤ n) && decide (n ≤ 57) && decide (0 < i)) = false by simp; omega]
          clear a1 a3 a4 a5 hi
          go_enter Try.func25, Try.ntmps25
          go_wp2_with fail
          go_ret
          exact ⟨rfl, rfl⟩
      · have z4 : ¬ (48 : Int) ≤ (n : Int) := by omega
        rw [show (decide (97 ≤ n) && decide (n ≤ 122) || decide (n = 95) || decide (48 ≤ n) && decide (n ≤ 57) && decide (0 < i)) = false by simp; omega]
        clear a1 a3 a4 hi
        go_enter Try.func25, Try.ntmps25
        go_wp2_with fail
        go_ret
        exact ⟨rfl, rfl⟩
set_option maxRecDepth 100000 in
set_option maxHeartbeats 1000000 in
theorem name_any (s : List UInt8) (w : World) : Calls Try.prog 8 #[.string ⟨s.toArray⟩] w (Tells w (.bool (M.name s))) := by
  by_cases h0 : s.length = 0
  · have HF := hid (show M.name s = false by simp [M.name, h0])
    have z0 : ((s.length : Int) == 0) = true := by simp [h0]
    clear h0
    go_enter Try.func8, Try.ntmps8
    go_wp2_with fail
    go_ret
    exact ⟨by rw [HF.out]; rfl, Touch.refl _ _⟩
  have z0 : ((s.length : Int) == 0) = false := by rw [beq_eq_false_iff_ne]; omega
  by_cases h1 : 20 < s.length
  · have z1 : (20 : Int) < (s.length : Int) := by omega
    have HF := hid (show M.name s = false by simp [M.name]; omega)
    clear h0
    go_enter Try.func8, Try.ntmps8
    go_wp2_with fail
    go_ret
    exact ⟨by rw [HF.out]; rfl, Touch.refl _ _⟩
  have z1 : ¬ (20 : Int) < (s.length : Int) := by omega
  have HF := hid (show M.name s = M.allFrom M.stands 0 s by rw [M.name, decide_eq_true h0, decide_eq_true (by omega : s.length ≤ 20)]; rfl)
  have HS := hid (fun i c w => mayStand_any i c w)
  obtain ⟨cap, w1, hcv, hA, hT⟩ := str_bytes s w
  have HA := hid (And.intro hA hT)
  clear hA hT h0 h1
  go_enter Try.func8, Try.ntmps8
  go_wp2_with fail
  go_loopw [16] (fun iv wr => ∃ i : Nat, iv = .int .i64 (i : Int) ∧ i ≤ s.length ∧ wr = w1 ∧ Hid (M.allFrom M.stands 0 s = M.allFrom M.stands i (s.drop i))) (fun iv _ => s.length - (intOf iv).toNat)
  case atStart => exact ⟨0, rfl, Nat.zero_le _, rfl, rfl⟩
  case round =>
    obtain ⟨i, rfl, hi, rfl, HI⟩ := hrel
    by_cases hlt : i < s.length
    · have hltz : (i : Int) < (s.length : Int) := by omega
      obtain ⟨c, hc⟩ : ∃ c, s[i]? = some c := ⟨s[i], List.getElem?_eq_getElem hlt⟩
      have HE := hid (M.allFrom_step M.stands hc)
      obtain ⟨b, o, ea, hcell⟩ := HA.out.1 i c hc
      obtain ⟨rfl, rfl⟩ : w.heap.size = b ∧ 0 = o := by simpa using ea
      rw [Nat.zero_add] at hcell
      obtain ⟨z, hz⟩ : ∃ z, M.stands i c = z := ⟨_, rfl⟩
      have HZ := hid hz
      clear hc hz ea
      cases z with
      | true =>
        go_wp2_with (first | (go_at_call 25; refine (HS.out i c _).mono ?_; rintro e w' ⟨rfl, hw⟩; obtain rfl := hw.symm; rw [HZ.out]))
        go_roundw
        case rel => exact ⟨i + 1, by go_num, by omega, by first | rfl | trivial, by rw [HI.out, HE.out, HZ.out]; rfl⟩
        case measure => simp [intOf]; omega
      | false =>
        go_wp2_with (first | (go_at_call 25; refine (HS.out i c _).mono ?_; rintro e w' ⟨rfl, hw⟩; obtain rfl := hw.symm; rw [HZ.out]))
        go_ret
        exact ⟨by rw [HF.out, HI.out, HE.out, HZ.out]; rfl, HA.out.2⟩
    · have hltz : ¬ (i : Int) < (s.length : Int) := by omega
      go_wp2_with fail
      go_ret
      exact ⟨by rw [HF.out, HI.out, M.allFrom_end _ (by omega)]; rfl, HA.out.2⟩
end Go.Proofs.Ytlgchdpajfmpdaa
