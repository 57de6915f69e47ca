/- The reference: names, columns. -/
import Derived.Test.YtlgchdpajfmpdaaBack
namespace Go.Proofs.Ytlgchdpajfmpdaa
open Go.RowKit

/-- Which bytes a name may have, by cases. -/
def Cls (n : Nat) : Prop := n < 48 ∨ (48 ≤ n ∧ n ≤ 57) ∨ (57 < n ∧ n < 97 ∧ n ≠ 95) ∨ n = 95 ∨ (97 ≤ n ∧ n ≤ 122) ∨ 122 < n
theorem cls (n : Nat) : Cls n := by unfold Cls; omega
theorem index_str (s : List UInt8) (i : Nat) (c : UInt8) (hc : s[i]? = some c) (h : i < (⟨s.toArray⟩ : ByteArray).size) : ((⟨s.toArray⟩ : ByteArray)[i]'h).toNat = c.toNat := by
  obtain ⟨h1, e1⟩ := List.getElem?_eq_some_iff.1 hc
  rw [← e1]; rfl
set_option maxRecDepth 100000 in
set_option maxHeartbeats 2000000 in
theorem rname_any (s : List UInt8) (w : World) : Calls Try.prog 9 #[.string ⟨s.toArray⟩] w (fun e w' => e = .returned (.bool (M.name s)) ∧ w' = w) := by
  by_cases h0 : s = []
  · subst h0
    go_enter Try.func9, Try.ntmps9
    go_wp2_with fail
    go_ret
    exact ⟨rfl, rfl⟩
  have z0 : (s == []) = false := by rw [beq_eq_false_iff_ne]; exact h0
  have h0l : s.length ≠ 0 := fun e => h0 (List.eq_nil_of_length_eq_zero e)
  by_cases h1 : 20 < s.length
  · have z1 : (20 : Int) < (s.length : Int) := by omega
    have HF := hid (show M.name s = false by rw [M.name, decide_eq_false (by omega : ¬ s.length ≤ 20)]; simp)
    clear h0 h0l
    go_enter Try.func9, Try.ntmps9
    go_wp2_with fail
    go_ret
    exact ⟨by rw [HF.out]; rfl, rfl⟩
  have z1 : ¬ (20 : Int) < (s.length : Int) := by omega
  have HF := hid (show M.name s = M.allFrom M.stands 0 s by rw [M.name, decide_eq_true h0l, decide_eq_true (by omega : s.length ≤ 20)]; rfl)
  clear h0 h1 h0l
  go_enter Try.func9, Try.ntmps9
  go_wp2_with fail
  go_loopw [3] (fun iv wr => ∃ i : Nat, iv = .int .i64 (i : Int) ∧ i ≤ s.length ∧ wr = w ∧ Hid (M.allFrom M.stands 0 s = M.allFrom M.stands i (s.drop i))) (fun iv _ => s.length - (intOf iv).toNat)
  case atStart => exact ⟨0, rfl, Nat.zero_le _, rfl, rfl⟩
  case round =>
    obtain ⟨i, rfl, hi, hw, HI⟩ := hrel
    obtain rfl := hw.symm
    by_cases hlt : i < s.length
    · have hltz : (i : Int) < (s.length : Int) := by omega
      obtain ⟨c, hc⟩ : ∃ c, s[i]? = some c := ⟨s[i], List.getElem?_eq_getElem hlt⟩
      have HE := hid (M.allFrom_step M.stands hc)
      have hidx := index_str s i c hc
      have HS := hid (show M.stands i c = ((decide (97 ≤ c.toNat) && decide (c.toNat ≤ 122)) || decide (c.toNat = 95) || (decide (48 ≤ c.toNat) && decide (c.toNat ≤ 57) && decide (0 < i))) from rfl)
      clear hc
      have hcl := cls c.toNat
      generalize hn : c.toNat = n at *
      have HC := hid hn
      clear hn
      rcases hcl with q | ⟨q0, q1⟩ | ⟨q0, q1, q2⟩ | q | ⟨q0, q1⟩ | q
      · have f48 : ¬ (48 : Int) ≤ (n : Int) := by omega
        have f97 : ¬ (97 : Int) ≤ (n : Int) := by omega
        have f95 : ((n : Int) == 95) = false := by rw [beq_eq_false_iff_ne]; omega
        have HT := hid (show M.stands i c = false by rw [HS.out]; simp; omega)
        clear HS
        go_wp2_with fail
        go_ret
        exact ⟨by rw [HF.out, HI.out, HE.out, HT.out]; rfl, rfl⟩
      · have f48 : (48 : Int) ≤ (n : Int) := by omega
        have f57 : (n : Int) ≤ 57 := by omega
        have f97 : ¬ (97 : Int) ≤ (n : Int) := by omega
        have f95 : ((n : Int) == 95) = false := by rw [beq_eq_false_iff_ne]; omega
        by_cases hi0 : i = 0
        · subst hi0
          have HT := hid (show M.stands 0 c = false by rw [HS.out]; simp; omega)
          clear HS
          go_wp2_with fail
          go_ret
          exact ⟨by rw [HF.out, HI.out, HE.out, HT.out]; rfl, rfl⟩
        · have fz : ((i : Int) == 0) = false := by rw [beq_eq_false_iff_ne]; omega
          have HT := hid (show M.stands i c = true by rw [HS.out]; simp; omega)
          clear HS
          go_wp2_with fail
          go_roundw
          case rel => exact ⟨i + 1, by go_num, by omega, by first | rfl | trivial, by rw [HI.out, HE.out, HT.out]; rfl⟩
          case measure => simp [intOf]; omega
      · have f48 : (48 : Int) ≤ (n : Int) := by omega
        have f57 : ¬ (n : Int) ≤ 57 := by omega
        have f97 : ¬ (97 : Int) ≤ (n : Int) := by omega
        have f95 : ((n : Int) == 95) = false := by rw [beq_eq_false_iff_ne]; omega
        have HT := hid (show M.stands i c = false by rw [HS.out]; simp; omega)
        clear HS
        go_wp2_with fail
        go_ret
        exact ⟨by rw [HF.out, HI.out, HE.out, HT.out]; rfl, rfl⟩
      · have f48 : (48 : Int) ≤ (n : Int) := by omega
        have f57 : ¬ (n : Int) ≤ 57 := by omega
        have f97 : ¬ (97 : Int) ≤ (n : Int) := by omega
        have f95 : ((n : Int) == 95) = true := by rw [beq_iff_eq]; omega
        have HT := hid (show M.stands i c = true by rw [HS.out]; simp; omega)
        clear HS
        go_wp2_with fail
        go_roundw
        case rel => exact ⟨i + 1, by go_num, by omega, by first | rfl | trivial, by rw [HI.out, HE.out, HT.out]; rfl⟩
        case measure => simp [intOf]; omega
      · have f48 : (48 : Int) ≤ (n : Int) := by omega
        have f57 : ¬ (n : Int) ≤ 57 := by omega
        have f97 : (97 : Int) ≤ (n : Int) := by omega
        have f122 : (n : Int) ≤ 122 := by omega
        have HT := hid (show M.stands i c = true by rw [HS.out]; simp; omega)
        clear HS
        go_wp2_with fail
        go_roundw
        case rel => exact ⟨i + 1, by go_num, by omega, by first | rfl | trivial, by rw [HI.out, HE.out, HT.out]; rfl⟩
        case measure => simp [intOf]; omega
      · have f48 : (48 : Int) ≤ (n : Int) := by omega
        have f57 : ¬ (n : Int) ≤ 57 := by omega
        have f97 : (97 : Int) ≤ (n : Int) := by omega
        have f122 : ¬ (n : Int) ≤ 122 := by omega
        have f95 : ((n : Int) == 95) = false := by rw [beq_eq_false_iff_ne]; omega
        have HT := hid (show M.stands i c = false by rw [HS.out]; simp; omega)
        clear HS
        go_wp2_with fail
        go_ret
        exact ⟨by rw [HF.out, HI.out, HE.out, HT.out]; rfl, rfl⟩
    · have hltz : ¬ (i : Int) < (s.length : Int) := by omega
      go_wp2_with fail
      go_ret
      exact ⟨by rw [HF.out, HI.out, M.allFrom_end _ (by omega)]; rfl, rfl⟩
end Go.Proofs.Ytlgchdpajfmpdaa
