/- The reference's Fill. -/
import Derived.Test.YtidkmamjhpckgaaRBytes
namespace Go.Proofs.Ytidkmamjhpckgaa
open Go.RowKit

set_option maxRecDepth 100000 in
set_option maxHeartbeats 1000000 in
theorem rfill_any {Q : Nat → Prop} (no : Int) (kd : UInt8) (a : Option Addr) (hs : List Part) (n cap : Nat) (hn : hs.length = n) (w : World) (h : GQ w Q ⟨a, cap, hs⟩) (hb : M.taken (hs.map (·.bs)) ≤ 1000000000000000) :
    Calls Try.prog 20 #[.int .i64 no, .int .u8 (kd.toNat : Int), .slice a n cap] w (PTold w (M.fillP no kd (hs.map (·.bs))) (M.fillE no kd (hs.map (·.bs)))) := by
  obtain ⟨tk, htk⟩ : ∃ tk, tk = M.taken (hs.map (·.bs)) := ⟨_, rfl⟩
  rw [← htk] at hb
  have HL := hid (rtaken_any a hs n cap hn w h tk htk hb)
  have HG := hid h
  have hn2 : 2 * n ≤ tk := by rw [htk, ← hn, ← List.length_map (f := (·.bs))]; unfold M.taken; omega
  have HN := hid (And.intro hn htk)
  clear h hn
  by_cases h1 : no < 0
  · have HE := hid (fillE_inv (l := hs.map (·.bs)) (kd := kd) (.inl h1))
    go_enter Try.func20, Try.ntmps20
    go_wp2_with fail
    go_ret2
    exact PTold.nil (Touch.refl _ _) HE.out.1 (by rw [HE.out.2]; rfl)
  · by_cases h2 : 2147483647 < no
    · have HE := hid (fillE_inv (l := hs.map (·.bs)) (kd := kd) (.inr (.inl h2)))
      go_enter Try.func20, Try.ntmps20
      go_wp2_with fail
      go_ret2
      exact PTold.nil (Touch.refl _ _) HE.out.1 (by rw [HE.out.2]; rfl)
    · by_cases h3 : kd = 0
      · have HE := hid (fillE_inv (l := hs.map (·.bs)) (no := no) (.inr (.inr h3)))
        have h3' : (kd.toNat : Int) = 0 := by rw [h3]; rfl
        clear h3
        go_enter Try.func20, Try.ntmps20
        go_wp2_with fail
        go_ret2
        exact PTold.nil (Touch.refl _ _) HE.out.1 (by rw [HE.out.2]; rfl)
      · have h3' : ¬ (kd.toNat : Int) = 0 := fun e => h3 (UInt8.toNat_inj.1 (by simpa using (show kd.toNat = 0 by omega)))
        have h3b : ((kd.toNat : Int) == 0) = false := by simpa using h3'
        have hnn : ¬ (no < 0 ∨ 2147483647 < no ∨ kd = 0) := fun c => by rcases c with c | c | c; exact h1 c; exact h2 c; exact h3 c
        obtain ⟨nn, rfl⟩ : ∃ nn : Nat, no = (nn : Int) := ⟨no.toNat, by omega⟩
        have h1b : decide ((nn : Int) < 0) = false := by simp
        by_cases h4 : 244 < tk
        · have HE := hid (show M.fillP (nn : Int) kd (hs.map (·.bs)) = [] ∧ M.fillE (nn : Int) kd (hs.map (·.bs)) = 32 by rw [M.fillP, M.fillE, if_neg hnn, if_neg hnn, if_pos (by rw [← htk]; exact h4), if_pos (by rw [← htk]; exact h4)]; exact ⟨rfl, rfl⟩)
          clear hnn h3 h1 htk
          by_cases h5 : 244 < n
          · go_enter Try.func20, Try.ntmps20
            go_wp2_with fail
            go_ret2
            exact PTold.nil (Touch.refl _ _) HE.out.1 (by rw [HE.out.2]; rfl)
          · have h5b : decide ((244 : Int) < (n : Int)) = false := by simp; omega
            go_enter Try.func20, Try.ntmps20
            go_wp2_with (go_at_call 28; refine HL.out.mono ?_; rintro e w1 ⟨rfl, hw⟩; rw [hw]; clear hw)
            go_ret2
            exact PTold.nil (Touch.refl _ _) HE.out.1 (by rw [HE.out.2]; rfl)
        · have HE := hid (show M.fillP (nn : Int) kd (hs.map (·.bs)) = M.pbytes ⟨nn, kd, hs.map (·.bs)⟩ ∧ M.fillE (nn : Int) kd (hs.map (·.bs)) = 0 by rw [M.fillP, M.fillE, if_neg hnn, if_neg hnn, if_neg (by rw [← htk]; exact h4), if_neg (by rw [← htk]; exact h4)]; exact ⟨rfl, rfl⟩)
          have HT := hid (show M.taken (hs.map (·.bs)) ≤ 244 by rw [← htk]; omega)
          have h5b : decide ((244 : Int) < (n : Int)) = false := by simp; omega
          have h4b : decide ((244 : Int) < (tk : Int)) = false := by simp; omega
          clear hnn h3 h1 htk
          go_enter Try.func20, Try.ntmps20
          go_wp2_with (first
            | (go_at_call 28; refine HL.out.mono ?_; rintro e w1 ⟨rfl, hw⟩; rw [hw]; clear hw)
            | (go_at_call 25; refine (rbytes_any nn kd a hs n cap HN.out.1 _ HG.out (by omega) HT.out).mono ?_; rintro e w2 ⟨ra, rc, rfl, H2⟩))
          go_ret2
          have hlen := M.len_pbytes (p := ⟨nn, kd, hs.map (·.bs)⟩) HT.out
          obtain ⟨_, _, e2, hle, hnon, hq⟩ := own_cq H2.out.1
          cases e2
          exact ⟨ra, rc, by rw [HE.out.1, HE.out.2, hlen]; rfl, by rw [HE.out.1]; exact hq.at, by rw [HE.out.1, hlen]; exact hle, ⟨hnon, fun b o e => by subst e; have h := (row_low H2.out.1 (k := b) rfl).1; omega⟩, H2.out.2⟩
end Go.Proofs.Ytidkmamjhpckgaa
