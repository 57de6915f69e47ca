/- What a cut Commit in a new epoch leaves, behind a loss that keeps all that waits. -/
import Derived.Test.YtlgbgedkedddaaaDoorWEp1
import Derived.Test.YtlgbgedkedddaaaDoorDSynFacts
import Derived.Test.YtlgbgedkedddaaaDoorDPend
namespace Go.Proofs.YtlgbgedkedddaaaDoor
open Go.RowKit
def cutN (z : Int) : Nat := (z % 18446744073709551616).toNat % 12
set_option maxRecDepth 100000 in
theorem cut_wrap (z : Int) : wrap64 ((IntKind.u64.wrap z).tmod 12) = (cutN z : Int) := by
  unfold cutN
  rw [IntKind.wrap_u64]
  have h0 : 0 ≤ z % 18446744073709551616 := Int.emod_nonneg _ (by decide)
  rw [Int.tmod_eq_emod_of_nonneg h0]
  unfold wrap64
  omega
set_option maxRecDepth 100000 in
theorem good_of {R : List (List UInt8)} (h : (L9 R).Ok) (hR : R ≠ []) : W.Good (W.gbytes R) ∧ W.secs (W.gbytes R).length ≤ 9 ∧ W.recs (W.gbytes R) = R := by
  have hw : W.secs (W.gbytes R).length ≤ 9 := by have q := h.wt hR; simpa [W.usedOf] using q
  have hl := secs_len hw
  have hr := W.recs_put R (by omega)
  exact ⟨⟨by omega, by rw [hr]; exact hR⟩, hw, hr⟩
/-- The groups that stand behind the loss. -/
def gone (D : dSt) : List (List UInt8) := (W.find 3 (secOf (D.lost (List.replicate D.W.length true) (-1) 0) 1) 9 0 [] [] 0).1
/-- How it ends. -/
def Fin (R : List (List UInt8)) (e : Int) (n sc : Nat) (G : List (List UInt8)) : Prop :=
  (R = [] ∧ e = 0 ∧ G = []) ∨ (R ≠ [] ∧ e = 0 ∧ G = [W.gbytes R]) ∨ (R ≠ [] ∧ e = 10 ∧ n = sc ∧ G = [W.gbytes R]) ∨ (R ≠ [] ∧ e = 10 ∧ n ≠ sc ∧ G = [])
set_option maxRecDepth 100000 in
theorem lost_sec (D : dSt) (i : Nat) : secOf (D.lost (List.replicate D.W.length true) (-1) 0) 1 i = hasOf D.H D.W ((1 + i : Nat) : Int) := by
  show hasOf (loseTo D.H D.W (List.replicate D.W.length true) (-1) 0 D.W.length) [] _ = _
  rw [lose_all _ (Nat.le_refl _), List.take_length]
  show syncH D.H D.W _ = _
  rw [syncH_has]
set_option maxRecDepth 100000 in
theorem cut_left {D : dSt} (h : Old D 9) (n : Int) : (D.cut n).left = n := by show (if D.left = 0 then 0 else n) = n; rw [h.left]; rfl
set_option maxRecDepth 100000 in
theorem fin_of {R : List (List UInt8)} {D : dSt} {n : Nat} (hD : Old D 9) (hk : (L9 R).Ok) : Fin R (comE (L9 R) (D.cut n)) (comD (L9 R) (D.cut n)).W.length (W.secs (W.gbytes R).length) (gone (comD (L9 R) (D.cut n))) ∧ (comD (L9 R) (D.cut n)).W.length ≤ 9 ∧ (comD (L9 R) (D.cut n)).size = 10 := by
  have hc : ¬ (L9 R).cl = true := by simp
  have hcl := cut_left hD (n : Int)
  have hsz : (D.cut (n : Int)).size = 10 := hD.size
  by_cases hR : R = []
  · subst hR
    rw [comE, comD, if_neg hc, if_neg hc, if_pos rfl, if_pos rfl]
    have hW : (D.cut (n : Int)).W = [] := hD.wait
    refine ⟨.inl ⟨rfl, rfl, ?_⟩, by rw [hW]; exact Nat.zero_le _, hsz⟩
    unfold gone
    rw [W.find_bad (by rw [lost_sec, hW]; exact hD.bad 0 (by decide))]
  · have hR' : ¬ (L9 R).R = [] := hR
    obtain ⟨hg, hs, hr⟩ := good_of hk hR
    rw [comE, comD, if_neg hc, if_neg hc, if_neg hR', if_neg hR']
    by_cases hn : W.secs (W.gbytes R).length < n
    · have e : comR (L9 R) (D.cut (n : Int)) = (0, (wroteN (D.cut (n : Int)) (fW 1 3 0 (W.gbytes R)) 0 (W.secs (W.gbytes R).length)).synced) := by
        unfold comR
        exact goW_all (.inr (by rw [hcl]; exact_mod_cast hn))
      rw [e]
      refine ⟨.inr (.inl ⟨hR, rfl, ?_⟩), Nat.zero_le _, ?_⟩
      · unfold gone
        rw [find_kept (H := D.H) (c := W.secs (W.gbytes R).length) hg hs (fun i hi => ?_) hD.bad (Nat.le_refl _), if_pos rfl]
        rw [lost_sec]
        show syncH (wroteN (D.cut (n : Int)) _ 0 _).H (wroteN (D.cut (n : Int)) _ 0 _).W _ = _
        rw [wroteN_H, wroteN_W, syncH_has, show (D.cut (n : Int)).W = [] from hD.wait, List.nil_append]
        have q := has_writes D.H 1 3 0 (W.gbytes R) i (W.secs (W.gbytes R).length)
        rw [Nat.add_zero] at q
        exact q
      · show (wroteN (D.cut (n : Int)) _ 0 _).size = _
        rw [wroteN_size]; exact hsz
    · have e : comR (L9 R) (D.cut (n : Int)) = (10, wroteN (D.cut (n : Int)) (fW 1 3 0 (W.gbytes R)) 0 n) := by
        unfold comR
        rw [goW_cut (by rw [hcl]; omega) (by rw [hcl]; show (n : Int) ≤ ((W.secs (W.gbytes R).length : Nat) : Int); omega), hcl]
        rfl
      rw [e]
      have hWn : (wroteN (D.cut (n : Int)) (fW 1 3 0 (W.gbytes R)) 0 n).W = (List.range n).map (fun j => fW 1 3 0 (W.gbytes R) (0 + j)) := by
        rw [wroteN_W, show (D.cut (n : Int)).W = [] from hD.wait, List.nil_append]
      have hl : (wroteN (D.cut (n : Int)) (fW 1 3 0 (W.gbytes R)) 0 n).W.length = n := by rw [hWn]; simp
      have hG : gone (wroteN (D.cut (n : Int)) (fW 1 3 0 (W.gbytes R)) 0 n) = if n = W.secs (W.gbytes R).length then [W.gbytes R] else [] := by
        unfold gone
        refine find_kept (H := D.H) (c := n) hg hs (fun i hi => ?_) hD.bad (by omega)
        rw [lost_sec, wroteN_H, hWn]
        have q := has_writes D.H 1 3 0 (W.gbytes R) i n
        rw [Nat.add_zero] at q
        exact q
      refine ⟨.inr (.inr ?_), by rw [hl]; omega, by rw [wroteN_size]; exact hsz⟩
      by_cases hx : n = W.secs (W.gbytes R).length
      · exact .inl ⟨hR, rfl, by rw [hl]; exact hx, by rw [hG, if_pos hx]⟩
      · exact .inr ⟨hR, rfl, by rw [hl]; exact hx, by rw [hG, if_neg hx]⟩
end Go.Proofs.YtlgbgedkedddaaaDoor
