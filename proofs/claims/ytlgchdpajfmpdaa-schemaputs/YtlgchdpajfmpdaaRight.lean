/- What is wrong with a table. -/
import Derived.Test.YtlgchdpajfmpdaaTwice
namespace Go.Proofs.Ytlgchdpajfmpdaa
open Go.RowKit

theorem name_len {s : List UInt8} (h : M.name s = true) : s.length ≤ 20 := by
  unfold M.name at h
  simp only [Bool.and_eq_true, decide_eq_true_eq] at h
  exact h.1.2
theorem bad_name {cs : List M.Col} (h : cs.any M.colBad = false) : ∀ c ∈ cs, M.name c.1 = true ∧ 1 ≤ c.2 ∧ c.2 ≤ 4 := by
  intro c hc
  have := List.any_eq_false.1 h c hc
  unfold M.colBad at this
  simp only [Bool.or_eq_true, decide_eq_true_eq, not_or, Bool.not_eq_true, Bool.not_eq_false'] at this
  exact ⟨this.1.1, by omega, by omega⟩
set_option maxRecDepth 100000 in
set_option maxHeartbeats 2000000 in
theorem right_any (n : List UInt8) (a : Option Addr) (cap : Nat) (cs : List M.Col) (w : World) (hA : ColAt w a cs) (hl : cs.length ≤ 1000) : Calls Try.prog 10 #[.agg #[.string ⟨n.toArray⟩, .slice a cs.length cap]] w (Tells w (.int .i64 (M.right n cs : Int))) := by
  have HA := hid hA
  have HB := hid (fun w' => two_new w (.string ⟨n.toArray⟩) (.slice a cs.length cap) 24 (w' := w'))
  obtain ⟨z, hz⟩ : ∃ z, M.name n = z := ⟨_, rfl⟩
  have HN := hid (show ∀ w, Calls Try.prog 8 #[.string ⟨n.toArray⟩] w (Tells w (.bool z)) by rw [← hz]; exact name_any n)
  have A0 := hid (show Adds w (w.alloc (.cells #[.string ⟨n.toArray⟩, .slice a cs.length cap] 24)) from (Touch.refl _ w).alloc _)
  clear hA
  cases z with
  | false =>
    have HF := hid (show M.right n cs = 2 by unfold M.right; rw [if_neg (by rw [hz]; simp)])
    clear hz
    go_enter Try.func10, Try.ntmps10
    go_wp2_with (first | (go_at_call 8; refine (HN.out _).mono ?_; rintro e w1 ⟨rfl, hA⟩; have A1 := hid (A0.out.trans hA); clear hA))
    go_ret
    exact ⟨by rw [HF.out]; rfl, A1.out⟩
  | true =>
    by_cases h0 : cs.length = 0
    · have HF := hid (show M.right n cs = 2 by unfold M.right; rw [if_neg (fun h => h.2.1 h0)])
      have z0 : ((cs.length : Int) == 0) = true := by rw [beq_iff_eq]; omega
      clear hz h0
      go_enter Try.func10, Try.ntmps10
      go_wp2_with (first | (go_at_call 8; refine (HN.out _).mono ?_; rintro e w1 ⟨rfl, hA⟩; have A1 := hid (A0.out.trans hA); obtain ⟨_, c1⟩ := HB.out w1 hA; clear hA))
      go_ret
      exact ⟨by rw [HF.out]; rfl, A1.out⟩
    have z0 : ((cs.length : Int) == 0) = false := by rw [beq_eq_false_iff_ne]; omega
    by_cases h8 : 8 < cs.length
    · have HF := hid (show M.right n cs = 2 by unfold M.right; rw [if_neg (fun h => absurd h.2.2.1 (by omega))])
      have z8 : (8 : Int) < (cs.length : Int) := by omega
      clear hz h0 h8
      go_enter Try.func10, Try.ntmps10
      go_wp2_with (first | (go_at_call 8; refine (HN.out _).mono ?_; rintro e w1 ⟨rfl, hA⟩; have A1 := hid (A0.out.trans hA); obtain ⟨_, c1⟩ := HB.out w1 hA; clear hA))
      go_ret
      exact ⟨by rw [HF.out]; rfl, A1.out⟩
    have z8 : ¬ (8 : Int) < (cs.length : Int) := by omega
    obtain ⟨y, hy⟩ : ∃ y, cs.any M.colBad = y := ⟨_, rfl⟩
    have HC := hid (show ∀ w', Adds w w' → Calls Try.prog 26 #[.slice a cs.length cap, .func (.func 27) #[] #[]] w' (Tells w' (.bool y)) by rw [← hy]; exact fun w' h => contains_any a cap cs w' (HA.out.adds h) hl)
    cases y with
    | true =>
      have HF := hid (show M.right n cs = 2 by unfold M.right; rw [if_neg (fun h => by rw [hy] at h; cases h.2.2.2)])
      clear hz h0 h8 hy
      go_enter Try.func10, Try.ntmps10
      go_wp2_with (first
        | (go_at_call 8; refine (HN.out _).mono ?_; rintro e w1 ⟨rfl, hA⟩; have A1 := hid (A0.out.trans hA); obtain ⟨_, c1⟩ := HB.out w1 hA; clear hA)
        | (go_at_call 26; refine (HC.out _ A1.out).mono ?_; rintro e w2 ⟨rfl, hA⟩; have A2 := hid (A1.out.trans hA); clear hA))
      go_ret
      exact ⟨by rw [HF.out]; rfl, A2.out⟩
    | false =>
      have HT := hid (fun w' (h : Adds w w') => twice_any a cap cs w' (HA.out.adds h) hl (fun c hc => Nat.le_trans (name_len (bad_name hy c hc).1) (by omega)))
      have HF0 := hid (show M.right n cs = if (cs.map (·.1)).Nodup then 0 else 41 by unfold M.right; rw [if_pos ⟨hz, h0, by omega, hy⟩])
      clear hz h0 h8 hy
      by_cases hd : (cs.map (·.1)).Nodup
      · have HF := hid (show M.right n cs = 0 by rw [HF0.out, if_pos hd])
        rw [decide_eq_true hd] at HT
        clear hd HF0
        go_enter Try.func10, Try.ntmps10
        go_wp2_with (first
          | (go_at_call 8; refine (HN.out _).mono ?_; rintro e w1 ⟨rfl, hA⟩; have A1 := hid (A0.out.trans hA); obtain ⟨_, c1⟩ := HB.out w1 hA; have B1 := hid hA; clear hA)
          | (go_at_call 26; refine (HC.out _ A1.out).mono ?_; rintro e w2 ⟨rfl, hA⟩; have A2 := hid (A1.out.trans hA); obtain ⟨_, c2⟩ := HB.out w2 (B1.out.trans hA); clear hA c1)
          | (go_at_call 28; refine (HT.out _ A2.out).mono ?_; rintro e w3 ⟨rfl, hA⟩; have A3 := hid (A2.out.trans hA); clear hA))
        go_ret
        exact ⟨by rw [HF.out]; rfl, A3.out⟩
      · have HF := hid (show M.right n cs = 41 by rw [HF0.out, if_neg hd])
        rw [decide_eq_false hd] at HT
        clear hd HF0
        go_enter Try.func10, Try.ntmps10
        go_wp2_with (first
          | (go_at_call 8; refine (HN.out _).mono ?_; rintro e w1 ⟨rfl, hA⟩; have A1 := hid (A0.out.trans hA); obtain ⟨_, c1⟩ := HB.out w1 hA; have B1 := hid hA; clear hA)
          | (go_at_call 26; refine (HC.out _ A1.out).mono ?_; rintro e w2 ⟨rfl, hA⟩; have A2 := hid (A1.out.trans hA); obtain ⟨_, c2⟩ := HB.out w2 (B1.out.trans hA); clear hA c1)
          | (go_at_call 28; refine (HT.out _ A2.out).mono ?_; rintro e w3 ⟨rfl, hA⟩; have A3 := hid (A2.out.trans hA); clear hA))
        go_ret
        exact ⟨by rw [HF.out]; rfl, A3.out⟩
end Go.Proofs.Ytlgchdpajfmpdaa
