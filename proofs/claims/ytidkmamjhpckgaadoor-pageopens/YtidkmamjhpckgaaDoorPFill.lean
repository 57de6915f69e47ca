/- A page of cells, or none: page.Fill, page.New. -/
import Derived.Test.YtidkmamjhpckgaaDoorPPage
import Derived.Test.YtidkmamjhpckgaaDoorPConcat
namespace Go.Proofs.YtidkmamjhpckgaaDoor
open Go.RowKit

/-- Bytes, and why none. -/
def PTold (w : World) (cs : List UInt8) (er : Nat) (e : Ending) (w' : World) : Prop := ∃ a cap, e = .returned (.tuple #[.slice a cs.length cap, .int .i64 (er : Int)]) ∧ Hid (At w' a cs ∧ cs.length ≤ cap ∧ ((a = none → cap = 0) ∧ ∀ b o, a = some ⟨b, o, none⟩ → w.heap.size ≤ b) ∧ Adds w w')
set_option maxRecDepth 100000 in
theorem PTold.nil {w w' : World} {cs : List UInt8} {er : Nat} {z : Int} (hA : Adds w w') (h1 : cs = []) (h2 : (er : Int) = z) : PTold w cs er (.returned (.tuple #[.slice none 0 0, .int .i64 z])) w' := by
  subst h1
  subst h2
  exact ⟨none, 0, rfl, At.nil _ _, Nat.le_refl _, ⟨fun _ => rfl, fun _ _ e => (by cases e)⟩, hA⟩
set_option maxRecDepth 100000 in
theorem fillE_inv {no : Int} {kd : UInt8} {l : List (List UInt8)} (h : no < 0 ∨ 2147483647 < no ∨ kd = 0) : M.fillP no kd l = [] ∧ M.fillE no kd l = 2 := by
  rw [M.fillP, M.fillE, if_pos h, if_pos h]; exact ⟨rfl, rfl⟩
set_option maxRecDepth 100000 in
set_option maxHeartbeats 1000000 in
theorem gfill_any (no : Int) (kd : UInt8) (a : Option Addr) (hs : List Part) (n cap : Nat) (hn : hs.length = n) (w : World) (h : GQ w (fun _ => True) ⟨a, cap, hs⟩) (hb : ∀ x ∈ hs, x.bs.length ≤ 1000000000000000) (hl : n ≤ 1000000000000000) :
    Calls Tryd.prog 12 #[.int .i64 no, .int .u8 (kd.toNat : Int), .slice a n cap] w (PTold w (M.fillP no kd (hs.map (·.bs))) (M.fillE no kd (hs.map (·.bs)))) := by
  have HG := hid h
  have HL := hid (gleft_any a hs n cap hn w h hb hl)
  have HN := hid hn
  clear h hb hn
  by_cases h1 : no < 0
  · have HE := hid (fillE_inv (l := hs.map (·.bs)) (kd := kd) (.inl h1))
    go_enter Tryd.func12, Tryd.ntmps12
    go_wp2_with fail
    go_ret2
    exact PTold.nil (Touch.refl _ _) HE.out.1 (by rw [HE.out.2]; rfl)
  · by_cases h2 : 2147483647 < no
    · have HE := hid (fillE_inv (l := hs.map (·.bs)) (kd := kd) (.inr (.inl h2)))
      go_enter Tryd.func12, Tryd.ntmps12
      go_wp2_with fail
      go_ret2
      exact PTold.nil (Touch.refl _ _) HE.out.1 (by rw [HE.out.2]; rfl)
    · by_cases h3 : kd = 0
      · have HE := hid (fillE_inv (l := hs.map (·.bs)) (no := no) (.inr (.inr h3)))
        have h3' : (kd.toNat : Int) = 0 := by rw [h3]; rfl
        clear h3
        go_enter Tryd.func12, Tryd.ntmps12
        go_wp2_with fail
        go_ret2
        exact PTold.nil (Touch.refl _ _) HE.out.1 (by rw [HE.out.2]; rfl)
      · have h3' : ¬ (kd.toNat : Int) = 0 := fun e => h3 (UInt8.toNat_inj.1 (by simpa using (show kd.toNat = 0 by omega)))
        have hnn : ¬ (no < 0 ∨ 2147483647 < no ∨ kd = 0) := fun c => by rcases c with c | c | c; exact h1 c; exact h2 c; exact h3 c
        by_cases h4 : 244 < M.taken (hs.map (·.bs))
        · have HE := hid (show M.fillP no kd (hs.map (·.bs)) = [] ∧ M.fillE no kd (hs.map (·.bs)) = 32 by rw [M.fillP, M.fillE, if_neg hnn, if_neg hnn, if_pos h4, if_pos h4]; exact ⟨rfl, rfl⟩)
          clear hnn h3
          go_enter Tryd.func12, Tryd.ntmps12
          go_wp2_with (go_at_call 26; refine HL.out.mono ?_; rintro e w1 ⟨z, rfl, hw, hz⟩; rw [hw]; clear hw; have hz2 := hz.out.2 h4; clear hz)
          go_ret2
          exact PTold.nil (Touch.refl _ _) HE.out.1 (by rw [HE.out.2]; rfl)
        · obtain ⟨nn, rfl⟩ : ∃ nn : Nat, no = (nn : Int) := ⟨no.toNat, by omega⟩
          have HE := hid (show M.fillP (nn : Int) kd (hs.map (·.bs)) = M.pbytes ⟨nn, kd, hs.map (·.bs)⟩ ∧ M.fillE (nn : Int) kd (hs.map (·.bs)) = 0 by rw [M.fillP, M.fillE, if_neg hnn, if_neg hnn, if_neg h4, if_neg h4]; exact ⟨rfl, rfl⟩)
          have HT := hid h4
          have h1b : decide ((nn : Int) < 0) = false := by simp
          have h3b : ((kd.toNat : Int) == 0) = false := by simpa using h3'
          clear hnn h3 h1
          go_enter Tryd.func12, Tryd.ntmps12
          go_wp2_with (first
            | (go_at_call 26; refine HL.out.mono ?_; rintro e w1 ⟨z, rfl, hw, hz⟩; rw [hw]; clear hw; have hz2 : ¬ z < 0 := by (have q := hz.out.1 (by omega); omega)
               clear hz)
            | (go_at_call 19; refine (gpage_any nn kd a hs n cap HN.out _ (HG.out.adds ((Touch.refl _ w).alloc _)) (by omega) (by have := HT.out; omega)).mono ?_; rintro e w2 ⟨g, rfl, H2⟩))
          go_ret2
          have hA : Adds w w2 := ((Touch.refl _ w).alloc _).trans H2.out.2.2
          have hlen := M.len_pbytes (p := ⟨nn, kd, hs.map (·.bs)⟩) (by have q := HT.out; show M.taken (hs.map (·.bs)) ≤ 244; omega)
          refine ⟨some ⟨g, 0, none⟩, 256, by rw [HE.out.1, HE.out.2, hlen]; rfl, by rw [HE.out.1]; exact H2.out.2.1.at, by rw [HE.out.1, hlen]; exact Nat.le_refl _, ⟨fun e => (by cases e), fun b o e => by cases e; have h := H2.out.1; simp at h; omega⟩, hA⟩
set_option maxRecDepth 100000 in
set_option maxHeartbeats 400000 in
theorem gnew_any (no : Int) (kd : UInt8) (w : World) : Calls Tryd.prog 22 #[.int .i64 no, .int .u8 (kd.toNat : Int)] w (PTold w (M.fillP no kd []) (M.fillE no kd [])) := by
  have H := hid (show Calls Tryd.prog 12 #[.int .i64 no, .int .u8 (kd.toNat : Int), .slice none 0 0] w (PTold w (M.fillP no kd []) (M.fillE no kd [])) from gfill_any no kd none [] 0 0 rfl w (GQ.nil w) (fun _ h => (by cases h)) (by decide))
  go_enter Tryd.func22, Tryd.ntmps22
  go_wp2_with (go_at_call 12; refine H.out.mono ?_; rintro e w1 ⟨a, cap, rfl, H1⟩)
  go_ret2
  exact ⟨a, cap, rfl, H1⟩
end Go.Proofs.YtidkmamjhpckgaaDoor
