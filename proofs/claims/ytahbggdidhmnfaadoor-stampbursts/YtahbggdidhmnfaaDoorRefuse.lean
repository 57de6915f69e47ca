/- Why a sector is not opened. -/
import Derived.Test.YtahbggdidhmnfaaDoorSec2
namespace Go.Proofs.YtahbggdidhmnfaaDoor
open Go.RowKit

theorem openErr_is {bs : List UInt8} (h : ¬ bs.length < 4) : openErr bs = 0 ∨ openErr bs = 20 := by
  rw [openErr, if_neg h]; split
  · exact .inl rfl
  · exact .inr rfl
theorem M.len_behind {cs : List UInt8} (h : cs.length = 256) : (M.behindOf cs).length = 234 - M.lenOf cs := by
  unfold M.behindOf; rw [List.length_drop, List.length_take, h]; omega
theorem Sec.behind {w : World} {g : Nat} {cs : List UInt8} (h : Sec w g cs) : At w (some ⟨g, 10 + M.lenOf cs, none⟩) (M.behindOf cs) := by
  have := (h.pre 244).suf (10 + M.lenOf cs)
  rwa [Nat.zero_add] at this
/-- An error behind an answer. -/
def POe (z : Int) (w : World) (e : Ending) (w' : World) : Prop := ∃ (a : Option Addr) (n cap : Nat), e = .returned (.tuple #[.slice a n cap, .int .i64 z]) ∧ Adds w w'

set_option maxRecDepth 100000 in
set_option maxHeartbeats 4000000 in
theorem refusal_any (g : Nat) (cs : List UInt8) (w : World) (h : Sec w g cs) (hT : Tab w) : Calls Tryd.prog 24 #[Ptr g] w (Adding (.int .i64 (M.oErr cs : Int)) w) := by
  have hl := h.len
  have l248 : (cs.take 248).length = 248 := by rw [List.length_take]; omega
  have l8 : (cs.take 8).length = 8 := by rw [List.length_take]; omega
  have r8 : (cs.drop 248).length = 8 := by rw [List.length_drop]; omega
  have hoe := openErr_is (bs := cs.take 248) (by omega)
  have HM := hid (fun w' (hA : Adds w w') => stamp_any g cs w' (h.adds hA))
  have hE : ∀ w', Adds w w' → Calls Tryd.prog 34 #[.slice (some ⟨g, 0, none⟩) 8 8, .slice (some ⟨g, 248, none⟩) 8 8] w' (Tells (.bool (decide (cs.take 8 = cs.drop 248))) w') := fun w' hA => by
    have := equal_any (some ⟨g, 0, none⟩) (cs.take 8) 8 (some ⟨g, 248, none⟩) (cs.drop 248) 8 w' ((h.adds hA).pre 8) (by have := (h.adds hA).at.suf 248; rwa [Nat.zero_add] at this)
    rwa [l8, r8] at this
  have H8 := hid (fun w' (hA : Adds w w') => (h.adds hA).cell (get_of (j := 8) (by omega)))
  have H9 := hid (fun w' (hA : Adds w w') => (h.adds hA).cell (get_of (j := 9) (by omega)))
  have hB : M.lenOf cs ≤ 233 → ∀ w', Adds w w' → Calls Tryd.prog 37 #[Ptr g] w' (Adding (.slice (some ⟨g, 10 + M.lenOf cs, none⟩) (234 - M.lenOf cs) (234 - M.lenOf cs)) w') := fun hn w' hA => behind_any g cs w' (h.adds hA) hn
  have hC : M.lenOf cs ≤ 233 → ∀ w', Adds w w' → Calls Tryd.prog 36 #[.slice (some ⟨g, 10 + M.lenOf cs, none⟩) (234 - M.lenOf cs) (234 - M.lenOf cs), .func (.func 38) #[] #[]] w' (Tells (.bool (M.some0 (M.behindOf cs))) w') := fun hn w' hA => by
    have hlb := M.len_behind hl
    have := contains_any (some ⟨g, 10 + M.lenOf cs, none⟩) (M.behindOf cs) (234 - M.lenOf cs) w' (h.adds hA).behind (by omega)
    rwa [hlb] at this
  have hP : ∀ w', Adds w w' → Calls Tryd.prog 35 #[.slice (some ⟨g, 0, none⟩) 248 248] w' (POe (openErr (cs.take 248)) w') := fun w' hA => by
    have hO := open_any (some ⟨g, 0, none⟩) (cs.take 248) 248 w' (by omega) (by omega) (hT.adds hA) ((h.adds hA).pre 248)
    rw [l248] at hO
    refine hO.mono ?_
    rintro e w'' ⟨ay, cy, rfl, _, hA'⟩
    exact ⟨ay, _, cy, rfl, hA'⟩
  have e1 : ¬ cs.length ≠ 256 := fun c => c hl
  have k8 : M.kindOf cs = cs.getD 8 0 := rfl
  have k9 : M.lenOf cs = (cs.getD 9 0).toNat := rfl
  unfold M.oErr
  rw [if_neg e1, k8]
  by_cases h0 : M.unfix (cs.take 8) = 0
  · rw [if_pos h0]
    rw [h0] at HM
    have HO := hid hP
    have HE := hid hE
    clear hP hE hB hC hoe k8 k9 e1 hl l248 l8 r8 h h0 hT
    go_enter Tryd.func24, Tryd.ntmps24
    go_wp2_with (first
      | (go_at_call 18; refine (sealed_any g _).mono ?_; rintro e _ ⟨rfl, hw⟩; rw [hw]; clear hw)
      | (go_at_call 35; refine (HO.out w1 A1.out).mono ?_; rintro e w2 ⟨ay, n1, cy, rfl, hA⟩; have A2 := hid (A1.out.trans hA); clear hA; have c8 := H8.out w2 A2.out; have c9 := H9.out w2 A2.out)
      | (go_at_call 25; refine (HM.out w (Touch.refl _ w)).mono ?_; rintro e w1 ⟨rfl, hA⟩; have A1 := hid hA; clear hA)
      | (go_at_call 15; refine (first_any g _).mono ?_; rintro e _ ⟨rfl, hw⟩; rw [hw]; clear hw)
      | (go_at_call 21; refine (last_any g _).mono ?_; rintro e _ ⟨rfl, hw⟩; rw [hw]; clear hw)
      | (go_at_call 34; refine (HE.out w1 A1.out).mono ?_; rintro e _ ⟨rfl, hw⟩; rw [hw]; clear hw))
    go_ret
    exact ⟨rfl, A1.out⟩
  rw [if_neg h0]
  have hst : ¬ (M.unfix (cs.take 8) : Int) = 0 := by omega
  generalize M.unfix (cs.take 8) = st at *
  by_cases h1 : cs.take 8 = cs.drop 248
  case neg =>
    rw [if_pos h1]
    have HE := hid hE
    rw [decide_eq_false h1] at HE
    have HO := hid hP
    clear hP hE hB hC hoe k8 k9 e1 hl l248 l8 r8 h h1 hT
    go_enter Tryd.func24, Tryd.ntmps24
    go_wp2_with (first
      | (go_at_call 18; refine (sealed_any g _).mono ?_; rintro e _ ⟨rfl, hw⟩; rw [hw]; clear hw)
      | (go_at_call 35; refine (HO.out w1 A1.out).mono ?_; rintro e w2 ⟨ay, n1, cy, rfl, hA⟩; have A2 := hid (A1.out.trans hA); clear hA; have c8 := H8.out w2 A2.out; have c9 := H9.out w2 A2.out)
      | (go_at_call 25; refine (HM.out w (Touch.refl _ w)).mono ?_; rintro e w1 ⟨rfl, hA⟩; have A1 := hid hA; clear hA)
      | (go_at_call 15; refine (first_any g _).mono ?_; rintro e _ ⟨rfl, hw⟩; rw [hw]; clear hw)
      | (go_at_call 21; refine (last_any g _).mono ?_; rintro e _ ⟨rfl, hw⟩; rw [hw]; clear hw)
      | (go_at_call 34; refine (HE.out w1 A1.out).mono ?_; rintro e _ ⟨rfl, hw⟩; rw [hw]; clear hw))
    go_ret
    exact ⟨rfl, A1.out⟩
  rw [if_neg (fun c => c h1)]
  have HE := hid hE
  rw [decide_eq_true h1] at HE
  clear hE
  rcases hoe with h2 | h2
  case inr =>
    rw [if_pos (by rw [h2]; decide)]
    have HO := hid hP
    rw [h2] at HO
    clear hP hB hC k8 k9 e1 hl l248 l8 r8 h h1 h2 hT
    go_enter Tryd.func24, Tryd.ntmps24
    go_wp2_with (first
      | (go_at_call 18; refine (sealed_any g _).mono ?_; rintro e _ ⟨rfl, hw⟩; rw [hw]; clear hw)
      | (go_at_call 35; refine (HO.out w1 A1.out).mono ?_; rintro e w2 ⟨ay, n1, cy, rfl, hA⟩; have A2 := hid (A1.out.trans hA); clear hA; have c8 := H8.out w2 A2.out; have c9 := H9.out w2 A2.out)
      | (go_at_call 25; refine (HM.out w (Touch.refl _ w)).mono ?_; rintro e w1 ⟨rfl, hA⟩; have A1 := hid hA; clear hA)
      | (go_at_call 15; refine (first_any g _).mono ?_; rintro e _ ⟨rfl, hw⟩; rw [hw]; clear hw)
      | (go_at_call 21; refine (last_any g _).mono ?_; rintro e _ ⟨rfl, hw⟩; rw [hw]; clear hw)
      | (go_at_call 34; refine (HE.out w1 A1.out).mono ?_; rintro e _ ⟨rfl, hw⟩; rw [hw]; clear hw))
    go_ret
    exact ⟨rfl, A2.out⟩
  rw [if_neg (by rw [h2]; decide)]
  have HO := hid hP
  rw [h2] at HO
  clear hP h1 h2 l248 l8 r8 hT
  by_cases h3 : cs.getD 8 0 = 0
  · rw [if_pos (.inl h3)]
    rw [h3] at H8
    clear hB hC k8 k9 e1 hl h h3
    go_enter Tryd.func24, Tryd.ntmps24
    go_wp2_with (first
      | (go_at_call 18; refine (sealed_any g _).mono ?_; rintro e _ ⟨rfl, hw⟩; rw [hw]; clear hw)
      | (go_at_call 35; refine (HO.out w1 A1.out).mono ?_; rintro e w2 ⟨ay, n1, cy, rfl, hA⟩; have A2 := hid (A1.out.trans hA); clear hA; have c8 := H8.out w2 A2.out; have c9 := H9.out w2 A2.out)
      | (go_at_call 25; refine (HM.out w (Touch.refl _ w)).mono ?_; rintro e w1 ⟨rfl, hA⟩; have A1 := hid hA; clear hA)
      | (go_at_call 15; refine (first_any g _).mono ?_; rintro e _ ⟨rfl, hw⟩; rw [hw]; clear hw)
      | (go_at_call 21; refine (last_any g _).mono ?_; rintro e _ ⟨rfl, hw⟩; rw [hw]; clear hw)
      | (go_at_call 34; refine (HE.out w1 A1.out).mono ?_; rintro e _ ⟨rfl, hw⟩; rw [hw]; clear hw))
    go_ret
    exact ⟨rfl, A2.out⟩
  have hk : ¬ ((cs.getD 8 0).toNat : Int) = 0 := by
    intro e
    exact h3 (UInt8.toNat_inj.1 (by simpa using (show (cs.getD 8 0).toNat = 0 by omega)))
  by_cases h4 : 233 < M.lenOf cs
  · rw [if_pos (.inr (.inl h4))]
    rw [k9] at h4
    have h4' : (233 : Int) < ((cs.getD 9 0).toNat : Int) := by omega
    clear hB hC k8 k9 e1 hl h h3 h4
    generalize cs.getD 8 0 = x8 at *
    generalize cs.getD 9 0 = x9 at *
    go_enter Tryd.func24, Tryd.ntmps24
    go_wp2_with (first
      | (go_at_call 18; refine (sealed_any g _).mono ?_; rintro e _ ⟨rfl, hw⟩; rw [hw]; clear hw)
      | (go_at_call 35; refine (HO.out w1 A1.out).mono ?_; rintro e w2 ⟨ay, n1, cy, rfl, hA⟩; have A2 := hid (A1.out.trans hA); clear hA; have c8 := H8.out w2 A2.out; have c9 := H9.out w2 A2.out)
      | (go_at_call 25; refine (HM.out w (Touch.refl _ w)).mono ?_; rintro e w1 ⟨rfl, hA⟩; have A1 := hid hA; clear hA)
      | (go_at_call 15; refine (first_any g _).mono ?_; rintro e _ ⟨rfl, hw⟩; rw [hw]; clear hw)
      | (go_at_call 21; refine (last_any g _).mono ?_; rintro e _ ⟨rfl, hw⟩; rw [hw]; clear hw)
      | (go_at_call 34; refine (HE.out w1 A1.out).mono ?_; rintro e _ ⟨rfl, hw⟩; rw [hw]; clear hw))
    go_ret
    exact ⟨rfl, A2.out⟩
  have h4' : ¬ (233 : Int) < ((cs.getD 9 0).toNat : Int) := by omega
  have HB := hid (hB (by omega))
  have HC := hid (hC (by omega))
  have e5 : (if cs.getD 8 0 = 0 ∨ 233 < M.lenOf cs ∨ M.some0 (M.behindOf cs) = true then 22 else 0) = (if M.some0 (M.behindOf cs) = true then 22 else 0) := by
    by_cases hb : M.some0 (M.behindOf cs) = true
    · rw [if_pos (.inr (.inr hb)), if_pos hb]
    · rw [if_neg hb, if_neg]
      rintro (c | c | c)
      · exact h3 c
      · exact h4 c
      · exact hb c
  rw [e5]
  clear hB hC k8 k9 e1 hl h h3 h4 e5
  generalize cs.getD 8 0 = x8 at *
  generalize cs.getD 9 0 = x9 at *
  generalize M.lenOf cs = ln at *
  generalize M.some0 (M.behindOf cs) = z at *
  have hkb : ((x8.toNat : Int) == 0) = false := beq_eq_false_iff_ne.2 hk
  have h4b : decide ((233 : Int) < (x9.toNat : Int)) = false := decide_eq_false h4'
  clear hk h4'
  cases z
  · rw [if_neg (by decide)]
    go_enter Tryd.func24, Tryd.ntmps24
    go_wp2_with (first
      | (go_at_call 18; refine (sealed_any g _).mono ?_; rintro e _ ⟨rfl, hw⟩; rw [hw]; clear hw)
      | (go_at_call 35; refine (HO.out w1 A1.out).mono ?_; rintro e w2 ⟨ay, n1, cy, rfl, hA⟩; have A2 := hid (A1.out.trans hA); clear hA; have c8 := H8.out w2 A2.out; have c9 := H9.out w2 A2.out)
      | (go_at_call 25; refine (HM.out w (Touch.refl _ w)).mono ?_; rintro e w1 ⟨rfl, hA⟩; have A1 := hid hA; clear hA)
      | (go_at_call 15; refine (first_any g _).mono ?_; rintro e _ ⟨rfl, hw⟩; rw [hw]; clear hw)
      | (go_at_call 21; refine (last_any g _).mono ?_; rintro e _ ⟨rfl, hw⟩; rw [hw]; clear hw)
      | (go_at_call 34; refine (HE.out w1 A1.out).mono ?_; rintro e _ ⟨rfl, hw⟩; rw [hw]; clear hw)
      | (go_at_call 37; refine (HB.out w2 A2.out).mono ?_; rintro e w3 ⟨rfl, hA⟩; have A3 := hid (A2.out.trans hA); clear hA)
      | (go_at_call 36; refine (HC.out w3 A3.out).mono ?_; rintro e _ ⟨rfl, hw⟩; rw [hw]; clear hw))
    go_ret
    exact ⟨rfl, A3.out⟩
  · rw [if_pos rfl]
    go_enter Tryd.func24, Tryd.ntmps24
    go_wp2_with (first
      | (go_at_call 18; refine (sealed_any g _).mono ?_; rintro e _ ⟨rfl, hw⟩; rw [hw]; clear hw)
      | (go_at_call 35; refine (HO.out w1 A1.out).mono ?_; rintro e w2 ⟨ay, n1, cy, rfl, hA⟩; have A2 := hid (A1.out.trans hA); clear hA; have c8 := H8.out w2 A2.out; have c9 := H9.out w2 A2.out)
      | (go_at_call 25; refine (HM.out w (Touch.refl _ w)).mono ?_; rintro e w1 ⟨rfl, hA⟩; have A1 := hid hA; clear hA)
      | (go_at_call 15; refine (first_any g _).mono ?_; rintro e _ ⟨rfl, hw⟩; rw [hw]; clear hw)
      | (go_at_call 21; refine (last_any g _).mono ?_; rintro e _ ⟨rfl, hw⟩; rw [hw]; clear hw)
      | (go_at_call 34; refine (HE.out w1 A1.out).mono ?_; rintro e _ ⟨rfl, hw⟩; rw [hw]; clear hw)
      | (go_at_call 37; refine (HB.out w2 A2.out).mono ?_; rintro e w3 ⟨rfl, hA⟩; have A3 := hid (A2.out.trans hA); clear hA)
      | (go_at_call 36; refine (HC.out w3 A3.out).mono ?_; rintro e _ ⟨rfl, hw⟩; rw [hw]; clear hw))
    go_ret
    exact ⟨rfl, A3.out⟩
end Go.Proofs.YtahbggdidhmnfaaDoor
