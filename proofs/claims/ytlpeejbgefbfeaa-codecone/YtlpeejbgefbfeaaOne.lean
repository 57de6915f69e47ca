/- Each number has one form alone: the walk. -/
import Derived.Test.YtlpeejbgefbfeaaNobody
import Derived.Deep.RegionWith
import Derived.Deep.CutRange
import Derived.BigQuiet
namespace Go.Proofs.Ytlpeejbgefbfeaa
open Go.RowKit

namespace M
theorem endE_zero {s : St} (h : endE s = 0) : s.e = 0 ∧ s.l = [] := by
  unfold endE at h
  split at h
  · cases h
  · rename_i hl
    exact ⟨h, List.eq_nil_of_length_eq_zero (by omega)⟩
theorem one1 {bs : List UInt8} (h : endE (uintR 18446744073709551615 ⟨0, bs⟩).2 = 0) : bs = enc (uintR 18446744073709551615 ⟨0, bs⟩).1 := by
  cases hs : scan 0 bs with
  | error e =>
    rw [uintR_err (s := ⟨0, bs⟩) rfl hs] at h
    have h1 : e = 0 := (endE_zero h).1
    have := scan_err bs 0 e hs
    omega
  | ok v =>
    obtain ⟨n, r⟩ := v
    have hb := scan_one hs
    rw [uintR_ok (s := ⟨0, bs⟩) rfl hs (by omega)] at h ⊢
    have h1 : r = [] := (endE_zero h).2
    rw [h1, List.append_nil] at hb
    exact hb.1
theorem one2 {bs : List UInt8} (h : endE (intR ⟨0, bs⟩).2 = 0) : bs = enc (zig (intR ⟨0, bs⟩).1) := by
  have h1 := one1 (bs := bs) h
  unfold intR
  rw [zig_unzig]
  exact h1
theorem one3 {bs : List UInt8} (h : endE (floatR ⟨0, bs⟩).2 = 0) : bs = fix (canon (floatR ⟨0, bs⟩).1) 8 := by
  by_cases hc : canon (fixedR 8 ⟨0, bs⟩).1 = (fixedR 8 ⟨0, bs⟩).1
  · rw [floatR, if_pos hc] at h ⊢
    rw [hc]
    have c8 : clamp 8 = 8 := rfl
    by_cases hl : bs.length < 8
    · rw [fixedR, c8, takeR_short (s := ⟨0, bs⟩) rfl hl] at h; cases h
    · rw [fixedR, c8, takeR_ok (s := ⟨0, bs⟩) rfl hl] at h ⊢
      have h1 : bs.drop 8 = [] := (endE_zero h).2
      have h2 : bs.length = 8 := by have := congrArg List.length h1; rw [List.length_drop] at this; simp at this; omega
      have h3 : bs.take 8 = bs := List.take_of_length_le (show bs.length ≤ 8 by omega)
      show bs = fix (unfix (bs.take 8)) 8
      rw [h3]
      exact (fix_unfix 8 bs h2).1.symm
  · rw [floatR, if_neg hc] at h; cases h
theorem endE_some (s : St) (h : s.e = 0 ∨ s.e = 21 ∨ s.e = 22) : endE s = 0 ∨ endE s = 21 ∨ endE s = 22 := by unfold endE; split <;> omega
theorem val1 (bs : List UInt8) : endE (uintR 18446744073709551615 ⟨0, bs⟩).2 = 0 ∨ endE (uintR 18446744073709551615 ⟨0, bs⟩).2 = 21 ∨ endE (uintR 18446744073709551615 ⟨0, bs⟩).2 = 22 := by
  apply endE_some
  cases hs : scan 0 bs with
  | error e =>
    rw [uintR_err (s := ⟨0, bs⟩) rfl hs]
    exact .inr (scan_err bs 0 e hs)
  | ok v =>
    obtain ⟨n, r⟩ := v
    have hb := scan_one hs
    rw [uintR_ok (s := ⟨0, bs⟩) rfl hs (by omega)]
    exact .inl rfl
theorem val2 (bs : List UInt8) : endE (intR ⟨0, bs⟩).2 = 0 ∨ endE (intR ⟨0, bs⟩).2 = 21 ∨ endE (intR ⟨0, bs⟩).2 = 22 := val1 bs
theorem val3 (bs : List UInt8) : endE (floatR ⟨0, bs⟩).2 = 0 ∨ endE (floatR ⟨0, bs⟩).2 = 21 ∨ endE (floatR ⟨0, bs⟩).2 = 22 := by
  apply endE_some
  by_cases hc : canon (fixedR 8 ⟨0, bs⟩).1 = (fixedR 8 ⟨0, bs⟩).1
  · rw [floatR, if_pos hc]
    have c8 : clamp 8 = 8 := rfl
    by_cases hl : bs.length < 8
    · rw [fixedR, c8, takeR_short (s := ⟨0, bs⟩) rfl hl]; exact .inr (.inl rfl)
    · rw [fixedR, c8, takeR_ok (s := ⟨0, bs⟩) rfl hl]; exact .inl rfl
  · rw [floatR, if_neg hc]; exact .inr (.inr rfl)
end M
theorem adds_drewN (w : World) (n : Nat) : Adds w (w.drewN n) := ⟨rfl, rfl, rfl, Nat.le_refl _, fun _ _ _ => rfl⟩
theorem Three.more {w w1 w2 : World} {p q t : Nat} {s1 s2 s3 : M.St} (h : Three w w1 p q t s1 s2 s3) (hA : Adds w1 w2) : Three w w2 p q t s1 s2 s3 :=
  ⟨h.one.adds hA, h.two.adds hA, h.three.adds hA, h.low, h.lt1, h.lt2, h.adds.trans hA⟩

/-- Bytes in new memory, as a string. -/
def PStr (w : World) (bs : List UInt8) (e : Ending) (w' : World) : Prop := ∃ a cap, e = .returned (.slice a bs.length cap) ∧ (convert 22 9 (.slice a bs.length cap)).run Try.prog w' = .ok (.string ⟨bs.toArray⟩) w' ∧ Hid (Adds w w')
theorem POwn.str {w w' : World} {bs : List UInt8} {e : Ending} (h : POwn w bs e w') : PStr w bs e w' := by
  obtain ⟨v, rfl, h1, h2⟩ := h
  obtain ⟨a, cap, rfl, hL⟩ := Own.lies h1
  exact ⟨a, cap, rfl, conv_at w' a bs cap hL.at_, h2⟩
theorem back1 {bs : List UInt8} {n : Nat} (hb : bs = M.enc n) (hn : n < 18446744073709551616) (w : World) : Calls Try.prog 9 #[.slice none 0 0, .int .u64 (n : Int)] w (PStr w bs) := by
  subst hb
  exact (putUint_any none [] 0 n w (by decide) hn (fun _ => rfl) (At.nil _ _)).mono fun _ _ h => POwn.str h
theorem back2 {bs : List UInt8} {z : Int} (hb : bs = M.enc (M.zig z)) (hz : -9223372036854775808 ≤ z ∧ z ≤ 9223372036854775807) (w : World) : Calls Try.prog 11 #[.slice none 0 0, .int .i64 z] w (PStr w bs) := by
  subst hb
  exact (putInt_any none [] 0 z w (by decide) hz.1 hz.2 (fun _ => rfl) (At.nil _ _)).mono fun _ _ h => POwn.str h
theorem back3 {bs : List UInt8} {b : Nat} (hb : bs = M.fix (M.canon b) 8) (w : World) : Calls Try.prog 15 #[.slice none 0 0, .float .f64 b] w (PStr w bs) := by
  subst hb
  exact (putFloat_any none [] 0 b w (by decide) (fun _ => rfl) (At.nil _ _)).mono fun _ _ h => POwn.str h
theorem end_is {p : Nat} {s : M.St} {w : World} (z : Int) (hz : (M.endE s : Int) = z) (h : RD w (Ptr p) s) : Calls Try.prog 35 #[Ptr p] w fun e w' => e = .returned (.int .i64 z) ∧ w' = w := by
  subst hz; exact end_any h

set_option maxRecDepth 100000 in
set_option maxHeartbeats 1000000 in
theorem one_walk (a : Option Addr) (bs : List UInt8) (cap : Nat) (w : World) (hcap : a = none → cap = 0) (hA : At w a bs) : Calls Try.prog 7 #[.slice a bs.length cap] w (PLaw w) := by
  have HA := hid (And.intro hA hcap)
  have HX := hid (show ∀ w', Adds w w' → (convert 22 9 (.slice a bs.length cap)).run Try.prog w' = .ok (.string ⟨bs.toArray⟩) w' from fun w' h => conv_at w' a bs cap (hA.adds h))
  clear hA hcap
  by_cases hl : 20 < bs.length
  · have hl' : (20 : Int) < (bs.length : Int) := by omega
    go_enter Try.func7, Try.ntmps7
    go_wp2_with (first
      | (go_at_call 19; refine (works_any w).mono ?_; rintro e w1 ⟨rfl, h1⟩; have A1 := hid h1; clear h1))
    go_ret
    exact ⟨rfl, A1.out⟩
  · have hl' : ¬ ((20 : Int) < (bs.length : Int)) := by omega
    have HL := hid (show bs.length ≤ 1000000 by omega)
    clear hl
    go_enter Try.func7, Try.ntmps7
    go_upto_region 9 with (first
      | (go_at_call 19; refine (works_any w).mono ?_; rintro e w1 ⟨rfl, h1⟩; have A1 := hid h1; clear h1)
      | (go_at_call 20; refine (read_any a bs cap w3 HL.out HA.out.2 (HA.out.1.adds (A1.out.trans (Q2.out.2.2.trans Q3.out.2.2)))).mono ?_; rintro e w4 ⟨t, rfl, h1, h2, h3⟩; have T4 := hid (Three.make A1.out Q2.out.1 Q2.out.2.1 Q2.out.2.2 (Touch.refl _ _) Q3.out.1 Q3.out.2.1 Q3.out.2.2 (Touch.refl _ _) h2 h1 h3); clear h1 h2 h3)
      | (go_at_call 20; refine (read_any a bs cap w2 HL.out HA.out.2 (HA.out.1.adds (A1.out.trans Q2.out.2.2))).mono ?_; rintro e w3 ⟨q, rfl, h1, h2, h3⟩; have Q3 := hid (And.intro h2 (And.intro h1 h3)); clear h1 h2 h3)
      | (go_at_call 20; refine (read_any a bs cap w1 HL.out HA.out.2 (HA.out.1.adds A1.out)).mono ?_; rintro e w2 ⟨p, rfl, h1, h2, h3⟩; have Q2 := hid (And.intro h2 (And.intro h1 h3)); clear h1 h2 h3)
      | (go_at_call 21; refine (uint_any 18446744073709551615 T4.out.one).mono ?_; rintro e w5 ⟨rfl, h1, h2⟩; have T5 := hid (T4.out.turn1 h1 h2); clear h1 h2)
      | (go_at_call 23; refine (int_any T5.out.two).mono ?_; rintro e w6 ⟨rfl, h1, h2⟩; have T6 := hid (T5.out.turn2 h1 h2); clear h1 h2)
      | (go_at_call 28; refine (float_any T6.out.three).mono ?_; rintro e w7 ⟨rfl, h1, h2⟩; have T7 := hid (T6.out.turn3 h1 h2); clear h1 h2))
    have O1 := hid (M.one1 (bs := bs))
    have O2 := hid (M.one2 (bs := bs))
    have O3 := hid (M.one3 (bs := bs))
    have V1 := hid (M.val1 bs)
    have V2 := hid (M.val2 bs)
    have V3 := hid (M.val3 bs)
    have L1 := hid (M.uintR_lt 18446744073709551615 ⟨0, bs⟩).1
    have L2 := hid (M.unzig_ge (M.uintR_lt 18446744073709551615 ⟨0, bs⟩).1)
    have L2' := hid (show -9223372036854775808 ≤ (M.intR ⟨0, bs⟩).1 ∧ (M.intR ⟨0, bs⟩).1 ≤ 9223372036854775807 from ⟨L2.out.1, by have := L2.out.2; exact Int.le_of_lt_add_one this⟩)
    clear HA HL A1 Q2 Q3 T4 T5 T6 L2
    generalize M.uintR 18446744073709551615 ⟨0, bs⟩ = u1 at *
    generalize M.intR ⟨0, bs⟩ = u2 at *
    generalize M.floatR ⟨0, bs⟩ = u3 at *
    obtain ⟨n1, s1⟩ := u1
    obtain ⟨n2, s2⟩ := u2
    obtain ⟨n3, s3⟩ := u3
    have HY := hid (show ∀ w', Adds w7 w' → Adds w w' from fun w' h => T7.out.adds.trans h)
    simp only at O1 O2 O3 V1 V2 V3 L1 L2' T7
    go_cut [46] from 36 to 46 (fun t46 wx => t46 = .bool false ∧ Hid (Adds w7 wx))
    case first =>
      have hx0 := HX.out w7.drew (T7.out.adds.trans (Touch.refl _ w7).drew)
      have TD := hid (T7.out.more (Touch.refl _ w7).drew)
      have AD := hid (show Adds w7 w7.drew from (Touch.refl _ w7).drew)
      rcases V1.out with he | he | he
      · have B1 := hid (back1 (O1.out he) L1.out)
        go_region_with (first
          | (go_at_call 35; refine (end_is 0 (by rw [he]; rfl) TD.out.one).mono ?_; rintro e w' ⟨rfl, hw⟩; obtain rfl := hw.symm)
          | (go_at_call 9; refine (B1.out _).mono ?_; rintro e w8 ⟨a8, cap8, rfl, hcv8, hA8⟩; have hx8 := HX.out w8 (TD.out.adds.trans hA8.out)))
        all_goals (go_wp2_with fail; go_meet)
        all_goals exact ⟨rfl, AD.out.trans hA8.out⟩
      · clear hx0
        go_quiet (first | (go_at_call 35; refine Calls.quiet_of_same (end_is 21 (by rw [he]; rfl) (T7.out.one.adds (adds_drewN _ _)))))
        all_goals (go_wp2_with fail; go_meet)
        all_goals exact ⟨rfl, adds_drewN _ _⟩
      · clear hx0
        go_quiet (first | (go_at_call 35; refine Calls.quiet_of_same (end_is 22 (by rw [he]; rfl) (T7.out.one.adds (adds_drewN _ _)))))
        all_goals (go_wp2_with fail; go_meet)
        all_goals exact ⟨rfl, adds_drewN _ _⟩
    case rest =>
      obtain ⟨rfl, HWC⟩ := hcut
      have T8 := hid (T7.out.more HWC.out)
      clear T7 HWC O1 V1 L1 HY
      go_upto_region 11 with fail
      go_cut [57] from 47 to 57 (fun t46 wx => t46 = .bool false ∧ Hid (Adds wc wx))
      case first =>
        have hx0 := HX.out wc.drew (T8.out.adds.trans (Touch.refl _ wc).drew)
        have TD := hid (T8.out.more (Touch.refl _ wc).drew)
        have AD := hid (show Adds wc wc.drew from (Touch.refl _ wc).drew)
        rcases V2.out with he | he | he
        · have B1 := hid (back2 (O2.out he) L2'.out)
          go_region_with (first
            | (go_at_call 35; refine (end_is 0 (by rw [he]; rfl) TD.out.two).mono ?_; rintro e w' ⟨rfl, hw⟩; obtain rfl := hw.symm)
            | (go_at_call 11; refine (B1.out _).mono ?_; rintro e w8 ⟨a8, cap8, rfl, hcv8, hA8⟩; have hx8 := HX.out w8 (TD.out.adds.trans hA8.out)))
          all_goals (go_wp2_with fail; go_meet)
          all_goals exact ⟨rfl, AD.out.trans hA8.out⟩
        · clear hx0
          go_quiet (first | (go_at_call 35; refine Calls.quiet_of_same (end_is 21 (by rw [he]; rfl) (T8.out.two.adds (adds_drewN _ _)))))
          all_goals (go_wp2_with fail; go_meet)
          all_goals exact ⟨rfl, adds_drewN _ _⟩
        · clear hx0
          go_quiet (first | (go_at_call 35; refine Calls.quiet_of_same (end_is 22 (by rw [he]; rfl) (T8.out.two.adds (adds_drewN _ _)))))
          all_goals (go_wp2_with fail; go_meet)
          all_goals exact ⟨rfl, adds_drewN _ _⟩
      case rest =>
        obtain ⟨rfl, HWC⟩ := hcut
        have T9 := hid (T8.out.more HWC.out)
        clear T8 HWC O2 V2 L2'
        go_upto_region 13 with fail
        rcases V3.out with he | he | he
        · have hx0 := HX.out wc.drew (T9.out.adds.trans (Touch.refl _ wc).drew)
          have TD := hid (T9.out.more (Touch.refl _ wc).drew)
          have B1 := hid (back3 (O3.out he))
          go_region_with (first
            | (go_at_call 35; refine (end_is 0 (by rw [he]; rfl) TD.out.three).mono ?_; rintro e w' ⟨rfl, hw⟩; obtain rfl := hw.symm)
            | (go_at_call 15; refine (B1.out _).mono ?_; rintro e w8 ⟨a8, cap8, rfl, hcv8, hA8⟩; have hx8 := HX.out w8 (TD.out.adds.trans hA8.out)))
          all_goals (go_wp2_with fail)
          all_goals (go_ret; exact ⟨rfl, TD.out.adds.trans hA8.out⟩)
        · go_quiet (first | (go_at_call 35; refine Calls.quiet_of_same (end_is 21 (by rw [he]; rfl) (T9.out.three.adds (adds_drewN _ _)))))
          all_goals (go_wp2_with fail)
          all_goals (go_ret; exact ⟨rfl, T9.out.adds.trans (adds_drewN _ _)⟩)
        · go_quiet (first | (go_at_call 35; refine Calls.quiet_of_same (end_is 22 (by rw [he]; rfl) (T9.out.three.adds (adds_drewN _ _)))))
          all_goals (go_wp2_with fail)
          all_goals (go_ret; exact ⟨rfl, T9.out.adds.trans (adds_drewN _ _)⟩)
end Go.Proofs.Ytlpeejbgefbfeaa
