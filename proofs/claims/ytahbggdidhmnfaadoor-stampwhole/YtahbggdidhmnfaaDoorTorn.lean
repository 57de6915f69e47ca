/- Torn, of whatever bytes. -/
import Derived.Test.YtahbggdidhmnfaaDoorCopy
import Derived.Deep.RegionWith
namespace Go.Proofs.YtahbggdidhmnfaaDoor
open Go.RowKit

theorem sufAt_none {a : Option Addr} {cap n : Nat} (hc : a = none → cap = 0) : sufAt a cap n = none → cap - n = 0 := by
  unfold sufAt
  split
  · omega
  · intro e
    cases a with
    | none => have := hc rfl; omega
    | some ad => cases e

set_option maxRecDepth 100000 in
set_option maxHeartbeats 4000000 in
theorem torn_walk (a : Option Addr) (x : List UInt8) (cap : Nat) (b : Option Addr) (y : List UInt8) (cap2 : Nat) (z : Int) (c m1 m2 : Nat) (hz : (z < 0 ∧ c = 0) ∨ (256 < z ∧ c = 256) ∨ (0 ≤ z ∧ z ≤ 256 ∧ z = (c : Int))) (h1 : (c ≤ y.length ∧ m1 = c) ∨ (y.length < c ∧ m1 = y.length)) (h2 : (c ≤ x.length ∧ m2 = c) ∨ (x.length < c ∧ m2 = x.length))
    (w : World) (hx : x.length ≤ 1000000) (hy : y.length ≤ 1000000) (hA : At w a x) (hB : At w b y) (ca : a = none → cap = 0) (cb : b = none → cap2 = 0) (hcap : x.length ≤ cap) (hcap2 : y.length ≤ cap2) :
    Calls Tryd.prog 13 #[.slice a x.length cap, .slice b y.length cap2, .int .i64 z] w (POwn w (y.take m1 ++ x.drop m2)) := by
  have l1 : (y.take m1).length = m1 := by rw [List.length_take]; omega
  have l2 : (x.drop m2).length = x.length - m2 := by rw [List.length_drop]
  have hC := concat_two (w := w.drew) ⟨b, y.take m1, cap2⟩ ⟨sufAt a cap m2, x.drop m2, cap - m2⟩ ((hB.pre m1).adds (Touch.refl _ w).drew) ((hA.sufAt cap m2 hcap).adds (Touch.refl _ w).drew) cb (sufAt_none ca) (by simp only [l1, l2]; omega)
  simp only [l1, l2] at hC
  have HC := hid hC
  have s1 := run_pre b y.length cap2 m1 (by omega)
  have s2 := run_suf a x.length cap m2 (by omega)
  generalize sufAt a cap m2 = a2 at *
  clear hA hB ca cb hcap hcap2 hC l1 l2
  obtain ⟨k2, hk2⟩ : ∃ k2, k2 = x.length - m2 := ⟨_, rfl⟩
  rw [← hk2] at s2 HC
  have HD := hid (show Adds w w.drew from (Touch.refl _ w).drew)
  clear hk2
  rcases hz with ⟨hz, rfl⟩ | ⟨hz, rfl⟩ | ⟨hz, hz2, rfl⟩
  · obtain rfl : m1 = 0 := by omega
    obtain rfl : m2 = 0 := by omega
    clear h1 h2
    have s1' : ∀ w, (Instr.sliceAt 23 (.slice b y.length cap2) none (some (.int .i64 0)) none).run Tryd.prog w = .ok (.slice b 0 cap2) w := fun w => s1 w
    have s2' : ∀ w, (Instr.sliceAt 23 (.slice a x.length cap) (some (.int .i64 0)) none none).run Tryd.prog w = .ok (.slice a2 k2 (cap - 0)) w := fun w => s2 w
    clear s1 s2
    have g1 : ¬ (y.length : Int) < (0 : Int) := by omega
    have g2 : (0 : Int) ≤ (y.length : Int) := by omega
    have g3 : ¬ (x.length : Int) < (0 : Int) := by omega
    have g4 : (0 : Int) ≤ (x.length : Int) := by omega
    go_enter Tryd.func13, Tryd.ntmps13
    go_upto_region 2 with (fail)
    go_region_held3 (fun _ => True) (trivial) (first | (go_at_call 30; refine HC.out.mono ?_; rintro e w1 ⟨v1, rfl, h1, h2⟩; have Q1 := hid (And.intro h1 h2); clear h1 h2))
    all_goals go_wp2
    all_goals (go_ret; exact ⟨v1, rfl, Q1.out.1, HD.out.trans Q1.out.2⟩)
  · rcases h1 with ⟨h1, rfl⟩ | ⟨h1, rfl⟩
    · rcases h2 with ⟨h2, rfl⟩ | ⟨h2, rfl⟩
      · have s1' : ∀ w, (Instr.sliceAt 23 (.slice b y.length cap2) none (some (.int .i64 256)) none).run Tryd.prog w = .ok (.slice b 256 cap2) w := fun w => s1 w
        clear s1
        have s2' : ∀ w, (Instr.sliceAt 23 (.slice a x.length cap) (some (.int .i64 256)) none none).run Tryd.prog w = .ok (.slice a2 k2 (cap - 256)) w := fun w => s2 w
        clear s2
        have g1 : ¬ (y.length : Int) < (256 : Int) := by omega
        have g2 : (256 : Int) ≤ (y.length : Int) := by omega
        have g3 : ¬ (x.length : Int) < (256 : Int) := by omega
        have g4 : (256 : Int) ≤ (x.length : Int) := by omega
        go_enter Tryd.func13, Tryd.ntmps13
        go_upto_region 2 with (fail)
        go_region_held3 (fun _ => True) (trivial) (first | (go_at_call 30; refine HC.out.mono ?_; rintro e w1 ⟨v1, rfl, h1, h2⟩; have Q1 := hid (And.intro h1 h2); clear h1 h2))
        all_goals go_wp2
        all_goals (go_ret; exact ⟨v1, rfl, Q1.out.1, HD.out.trans Q1.out.2⟩)
      · have s1' : ∀ w, (Instr.sliceAt 23 (.slice b y.length cap2) none (some (.int .i64 256)) none).run Tryd.prog w = .ok (.slice b 256 cap2) w := fun w => s1 w
        clear s1
        have g1 : ¬ (y.length : Int) < (256 : Int) := by omega
        have g2 : (256 : Int) ≤ (y.length : Int) := by omega
        have g3 : (x.length : Int) < (256 : Int) := by omega
        go_enter Tryd.func13, Tryd.ntmps13
        go_upto_region 2 with (fail)
        go_region_held3 (fun _ => True) (trivial) (first | (go_at_call 30; refine HC.out.mono ?_; rintro e w1 ⟨v1, rfl, h1, h2⟩; have Q1 := hid (And.intro h1 h2); clear h1 h2))
        all_goals go_wp2
        all_goals (go_ret; exact ⟨v1, rfl, Q1.out.1, HD.out.trans Q1.out.2⟩)
    · rcases h2 with ⟨h2, rfl⟩ | ⟨h2, rfl⟩
      · have s2' : ∀ w, (Instr.sliceAt 23 (.slice a x.length cap) (some (.int .i64 256)) none none).run Tryd.prog w = .ok (.slice a2 k2 (cap - 256)) w := fun w => s2 w
        clear s2
        have g1 : (y.length : Int) < (256 : Int) := by omega
        have g2 : ¬ (x.length : Int) < (256 : Int) := by omega
        have g3 : (256 : Int) ≤ (x.length : Int) := by omega
        go_enter Tryd.func13, Tryd.ntmps13
        go_upto_region 2 with (fail)
        go_region_held3 (fun _ => True) (trivial) (first | (go_at_call 30; refine HC.out.mono ?_; rintro e w1 ⟨v1, rfl, h1, h2⟩; have Q1 := hid (And.intro h1 h2); clear h1 h2))
        all_goals go_wp2
        all_goals (go_ret; exact ⟨v1, rfl, Q1.out.1, HD.out.trans Q1.out.2⟩)
      · have g1 : (y.length : Int) < (256 : Int) := by omega
        have g2 : (x.length : Int) < (256 : Int) := by omega
        go_enter Tryd.func13, Tryd.ntmps13
        go_upto_region 2 with (fail)
        go_region_held3 (fun _ => True) (trivial) (first | (go_at_call 30; refine HC.out.mono ?_; rintro e w1 ⟨v1, rfl, h1, h2⟩; have Q1 := hid (And.intro h1 h2); clear h1 h2))
        all_goals go_wp2
        all_goals (go_ret; exact ⟨v1, rfl, Q1.out.1, HD.out.trans Q1.out.2⟩)
  · rcases h1 with ⟨h1, rfl⟩ | ⟨h1, rfl⟩
    · rcases h2 with ⟨h2, rfl⟩ | ⟨h2, rfl⟩
      · have g1 : ¬ (y.length : Int) < (m2 : Int) := by omega
        have g2 : (m2 : Int) ≤ (y.length : Int) := by omega
        have g3 : ¬ (x.length : Int) < (m2 : Int) := by omega
        have g4 : (m2 : Int) ≤ (x.length : Int) := by omega
        go_enter Tryd.func13, Tryd.ntmps13
        go_upto_region 2 with (fail)
        go_region_held3 (fun _ => True) (trivial) (first | (go_at_call 30; refine HC.out.mono ?_; rintro e w1 ⟨v1, rfl, h1, h2⟩; have Q1 := hid (And.intro h1 h2); clear h1 h2))
        all_goals go_wp2
        all_goals (go_ret; exact ⟨v1, rfl, Q1.out.1, HD.out.trans Q1.out.2⟩)
      · have g1 : ¬ (y.length : Int) < (m1 : Int) := by omega
        have g2 : (m1 : Int) ≤ (y.length : Int) := by omega
        have g3 : (x.length : Int) < (m1 : Int) := by omega
        go_enter Tryd.func13, Tryd.ntmps13
        go_upto_region 2 with (fail)
        go_region_held3 (fun _ => True) (trivial) (first | (go_at_call 30; refine HC.out.mono ?_; rintro e w1 ⟨v1, rfl, h1, h2⟩; have Q1 := hid (And.intro h1 h2); clear h1 h2))
        all_goals go_wp2
        all_goals (go_ret; exact ⟨v1, rfl, Q1.out.1, HD.out.trans Q1.out.2⟩)
    · rcases h2 with ⟨h2, rfl⟩ | ⟨h2, rfl⟩
      · have g1 : (y.length : Int) < (m2 : Int) := by omega
        have g2 : ¬ (x.length : Int) < (m2 : Int) := by omega
        have g3 : (m2 : Int) ≤ (x.length : Int) := by omega
        go_enter Tryd.func13, Tryd.ntmps13
        go_upto_region 2 with (fail)
        go_region_held3 (fun _ => True) (trivial) (first | (go_at_call 30; refine HC.out.mono ?_; rintro e w1 ⟨v1, rfl, h1, h2⟩; have Q1 := hid (And.intro h1 h2); clear h1 h2))
        all_goals go_wp2
        all_goals (go_ret; exact ⟨v1, rfl, Q1.out.1, HD.out.trans Q1.out.2⟩)
      · have g1 : (y.length : Int) < (c : Int) := by omega
        have g2 : (x.length : Int) < (c : Int) := by omega
        go_enter Tryd.func13, Tryd.ntmps13
        go_upto_region 2 with (fail)
        go_region_held3 (fun _ => True) (trivial) (first | (go_at_call 30; refine HC.out.mono ?_; rintro e w1 ⟨v1, rfl, h1, h2⟩; have Q1 := hid (And.intro h1 h2); clear h1 h2))
        all_goals go_wp2
        all_goals (go_ret; exact ⟨v1, rfl, Q1.out.1, HD.out.trans Q1.out.2⟩)
theorem torn_any (a : Option Addr) (x : List UInt8) (cap : Nat) (b : Option Addr) (y : List UInt8) (cap2 : Nat) (z : Int) (w : World) (hx : x.length ≤ 1000000) (hy : y.length ≤ 1000000) (hA : At w a x) (hB : At w b y) (ca : a = none → cap = 0) (cb : b = none → cap2 = 0) (hcap : x.length ≤ cap) (hcap2 : y.length ≤ cap2) :
    Calls Tryd.prog 13 #[.slice a x.length cap, .slice b y.length cap2, .int .i64 z] w (POwn w (M.torn x y z)) := by
  have e : y.take (Nat.min (M.cl z) y.length) ++ x.drop (Nat.min (M.cl z) x.length) = M.torn x y z := by
    unfold M.torn
    congr 1
    · by_cases h : M.cl z ≤ y.length
      · rw [show Nat.min (M.cl z) y.length = M.cl z from Nat.min_eq_left h]
      · rw [show Nat.min (M.cl z) y.length = y.length from Nat.min_eq_right (by omega), List.take_length, List.take_of_length_le (by omega)]
    · by_cases h : M.cl z ≤ x.length
      · rw [show Nat.min (M.cl z) x.length = M.cl z from Nat.min_eq_left h]
      · rw [show Nat.min (M.cl z) x.length = x.length from Nat.min_eq_right (by omega), List.drop_length, List.drop_eq_nil_of_le (by omega)]
  rw [← e]
  refine torn_walk a x cap b y cap2 z (M.cl z) _ _ ?_ ?_ ?_ w hx hy hA hB ca cb hcap hcap2
  · unfold M.cl
    split
    · exact .inl ⟨by assumption, rfl⟩
    · split
      · exact .inr (.inl ⟨by assumption, rfl⟩)
      · exact .inr (.inr ⟨by omega, by omega, by omega⟩)
  · by_cases h : M.cl z ≤ y.length
    · exact .inl ⟨h, Nat.min_eq_left h⟩
    · exact .inr ⟨by omega, Nat.min_eq_right (by omega)⟩
  · by_cases h : M.cl z ≤ x.length
    · exact .inl ⟨h, Nat.min_eq_left h⟩
    · exact .inr ⟨by omega, Nat.min_eq_right (by omega)⟩
end Go.Proofs.YtahbggdidhmnfaaDoor
