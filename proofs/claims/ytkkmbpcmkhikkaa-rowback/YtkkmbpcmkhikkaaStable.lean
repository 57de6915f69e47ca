/- Sorted by blocks that are merged. -/
import Derived.Test.YtkkmbpcmkhikkaaIns
import Derived.Test.YtkkmbpcmkhikkaaSym1
import Derived.Test.YtkkmbpcmkhikkaaSym2
import Derived.Test.YtkkmbpcmkhikkaaSym3
import Derived.Test.YtkkmbpcmkhikkaaSMath2
namespace Go.Proofs.Ytkkmbpcmkhikkaa
open Go.RowKit

/-- Merging, by the places' number. -/
theorem sym_any (q : Nat) (cb : Array Value) (cf : List M.V → List M.V → Int) (ho : M.Ord (ltc cf)) (g cap L : Nat) (hl : L ≤ 1000000) : ∀ (d a m b : Nat) (l : List Hd) (w : World), b - a ≤ d → l.length = L → a < m → m < b → b ≤ L → Dat w g l → M.Srt (ltc cf) a m l → M.Srt (ltc cf) m b l → Cmps q cb cf g w →
    ∀ za zm zb : Int, za = (a : Int) → zm = (m : Int) → zb = (b : Int) → Calls Try.prog 72 #[.slice (some ⟨g, 0, none⟩) L cap, .int .i64 za, .int .i64 zm, .int .i64 zb, .func (.func q) #[] cb] w (PSort w g cf a b l)
  | 0, a, m, b, l, w, h0, hL, ham, hmb, hb, hD, h1, h2, hC, za, zm, zb, ea, em, eb => by omega
  | d + 1, a, m, b, l, w, h0, hL, ham, hmb, hb, hD, h1, h2, hC, za, zm, zb, ea, em, eb => by
    subst ea em eb
    by_cases c1 : m = a + 1
    · exact sym_one q cb cf ho g cap a m b L l w hL c1 hmb hb hl hD h2 hC
    · by_cases c2 : b = m + 1
      · exact sym_last q cb cf ho g cap a m b L l w hL (by omega) c2 hb hl hD h1 hC
      · exact sym_gen q cb cf ho g cap a m b L l w hL (by omega) (by omega) hb hl hD h1 h2 hC (fun a' m' b' l' w' hd => sym_any q cb cf ho g cap L hl d a' m' b' l' w' (by omega))
theorem ins_at (q : Nat) (cb : Array Value) (cf : List M.V → List M.V → Int) (ho : M.Ord (ltc cf)) (g cap a b L : Nat) (l : List Hd) (w : World) (za zb : Int) (ea : za = (a : Int)) (eb : zb = (b : Int)) (hL : l.length = L) (hab : a ≤ b) (hb : b ≤ L) (hl : L ≤ 1000000) (hD : Dat w g l) (hC : Cmps q cb cf g w) :
    Calls Try.prog 71 #[.slice (some ⟨g, 0, none⟩) L cap, .int .i64 za, .int .i64 zb, .func (.func q) #[] cb] w (PSort w g cf a b l) := by
  subst ea eb hL
  exact ins_any q cb cf ho g cap a b l w hab hb hl hD hC
set_option maxRecDepth 100000 in
set_option maxHeartbeats 2000000 in
theorem stable_any (q : Nat) (cb : Array Value) (cf : List M.V → List M.V → Int) (ho : M.Ord (ltc cf)) (g cap L : Nat) (l : List Hd) (w : World) (hL : l.length = L) (hl : L ≤ 1000000) (hD : Dat w g l) (hC : Cmps q cb cf g w) :
    Calls Try.prog 55 #[.slice (some ⟨g, 0, none⟩) L cap, .int .i64 (L : Int), .func (.func q) #[] cb] w (PSort w g cf 0 L l) := by
  have HCM := hid hC
  have HO := hid ho
  have HD := hid hD
  clear hC ho hD
  go_enter Try.func55, Try.ntmps55
  go_upto_region 2 with fail
  go_loopw [7, 8] (fun av bv wr => ∃ (k a b : Nat) (m : List Hd), av = .int .i64 (a : Int) ∧ bv = .int .i64 (b : Int) ∧ a ≤ L ∧ b ≤ L + 20 ∧ Hid (a = k * 20 ∧ b = a + 20) ∧ m.length = L ∧ Hid (M.Blk (ltc cf) 20 a m ∧ M.Kpt (ltc cf) L l m ∧ Dat wr g m ∧ Only g w wr)) (fun av _ _ => L - (intOf av).toNat)
  case atStart => exact ⟨0, 0, 20, l, rfl, rfl, by omega, by omega, ⟨rfl, rfl⟩, hL, .zero, .start, HD.out, Touch.refl _ _⟩
  case round =>
    obtain ⟨k, a, b, m, rfl, rfl, haL, hbL, HK, hm, HI⟩ := hrel
    clear HD
    by_cases hlt : b ≤ L
    · have hltz : (b : Int) ≤ (L : Int) := by omega
      go_wp2_with (first | (go_at_call 71; refine (ins_at q cb cf HO.out g cap a b L m _ _ _ (by first | rfl | omega | (simp only [wrap64]; omega)) (by first | rfl | omega | (simp only [wrap64]; omega)) hm (by have := HK.out; omega) hlt hl HI.out.2.2.1 (HCM.out.only HI.out.2.2.2)).mono ?_; rintro e w1 ⟨rfl, HR⟩))
      go_roundw
      case rel =>
        obtain ⟨r, r1, r2, r3⟩ := HR.out
        have hk := HK.out
        exact ⟨k + 1, b, b + 20, r, rfl, by go_num, by omega, by omega, ⟨by omega, rfl⟩, r1.mv.len.trans hm, HI.out.1.more (by omega) hk.1 (by omega) r1.mv r1.srt, HI.out.2.1.step r1 hlt, r2, HI.out.2.2.2.trans r3⟩
      case measure => have := HK.out; simp [intOf]; omega
    · have hltz : ¬ (b : Int) ≤ (L : Int) := by omega
      go_upto_region 7 with (first | (go_at_call 71; refine (ins_at q cb cf HO.out g cap a L L m _ _ _ (by first | rfl | omega | (simp only [wrap64]; omega)) (by first | rfl | omega | (simp only [wrap64]; omega)) hm haL (Nat.le_refl _) hl HI.out.2.2.1 (HCM.out.only HI.out.2.2.2)).mono ?_; rintro e w1 ⟨rfl, HR⟩))
      have HJ := hid (show ∃ r, r.length = L ∧ M.Blk (ltc cf) 20 L r ∧ M.Kpt (ltc cf) L l r ∧ Dat w1 g r ∧ Only g w w1 by
        obtain ⟨r, r1, r2, r3⟩ := HR.out
        have hk := HK.out
        exact ⟨r, r1.mv.len.trans hm, HI.out.1.more (by omega) hk.1 (by omega) r1.mv r1.srt, HI.out.2.1.step r1 (Nat.le_refl _), r2, HI.out.2.2.2.trans r3⟩)
      clear HR HI
      generalize wr = w0 at *
      go_loopw [6] (fun sv wr => ∃ (s : Nat) (m : List Hd), sv = .int .i64 (s : Int) ∧ 20 ≤ s ∧ s ≤ 2 * L + 20 ∧ m.length = L ∧ Hid (M.Blk (ltc cf) s L m ∧ M.Kpt (ltc cf) L l m ∧ Dat wr g m ∧ Only g w wr)) (fun sv _ => L - (intOf sv).toNat)
      case atStart =>
        obtain ⟨r, r0, r1, r2, r3, r4⟩ := HJ.out
        exact ⟨20, r, rfl, by omega, by omega, r0, r1, r2, r3, r4⟩
      case round =>
        obtain ⟨s, m2, rfl, hs, hs2, hm2, HI⟩ := hrel
        clear HJ
        by_cases hsl : s < L
        · have hslz : (s : Int) < (L : Int) := by omega
          go_upto_region 9 with fail
          generalize wr = w2 at *
          go_loopw [7, 8] (fun av bv wr => ∃ (k a b : Nat) (m : List Hd), av = .int .i64 (a : Int) ∧ bv = .int .i64 (b : Int) ∧ a ≤ L ∧ b ≤ L + 2 * s ∧ Hid (a = k * (2 * s) ∧ b = a + 2 * s) ∧ m.length = L ∧ Hid (M.Two (ltc cf) s L a m ∧ M.Kpt (ltc cf) L l m ∧ Dat wr g m ∧ Only g w wr)) (fun av _ _ => L - (intOf av).toNat)
          case atStart => exact ⟨0, 0, 2 * s, m2, rfl, by go_num, by omega, by omega, ⟨by omega, by omega⟩, hm2, .start HI.out.1, HI.out.2.1, HI.out.2.2.1, HI.out.2.2.2⟩
          case round =>
            obtain ⟨k2, a2, b2, m3, rfl, rfl, haL2, hbL2, HK2, hm3, HJ⟩ := hrel
            clear HI
            by_cases hlt2 : b2 ≤ L
            · have hltz2 : (b2 : Int) ≤ (L : Int) := by omega
              go_wp2_with (first | (go_at_call 72; refine (sym_any q cb cf HO.out g cap L hl _ a2 (a2 + s) b2 m3 _ (Nat.le_refl _) hm3 (by omega) (by have := HK2.out; omega) hlt2 HJ.out.2.2.1 (HJ.out.1.one HK2.out.1 (by have := HK2.out; omega)) (HJ.out.1.two HK2.out.1 (by have := HK2.out; omega) hlt2) (HCM.out.only HJ.out.2.2.2) _ _ _ (by first | rfl | omega | (simp only [wrap64]; omega)) (by first | rfl | omega | (simp only [wrap64]; omega)) (by first | rfl | omega | (simp only [wrap64]; omega))).mono ?_; rintro e w3 ⟨rfl, HR⟩))
              go_roundw
              case rel =>
                obtain ⟨r, r1, r2, r3⟩ := HR.out
                have hk2 := HK2.out
                exact ⟨k2 + 1, b2, b2 + 2 * s, r, rfl, by go_num, by omega, by omega, ⟨by rw [hk2.2, hk2.1]; exact M.next_two _ _, rfl⟩, r1.mv.len.trans hm3, by rw [hk2.2] at r1 ⊢; exact HJ.out.1.step (by omega) hk2.1 r1, HJ.out.2.1.step r1 hlt2, r2, HJ.out.2.2.2.trans r3⟩
              case measure => have := HK2.out; simp [intOf]; omega
            · have hltz2 : ¬ (b2 : Int) ≤ (L : Int) := by omega
              by_cases hr : a2 + s < L
              · have hrz : (a2 : Int) + (s : Int) < (L : Int) := by omega
                go_wp2_with (first | (go_at_call 72; refine (sym_any q cb cf HO.out g cap L hl _ a2 (a2 + s) L m3 _ (Nat.le_refl _) hm3 (by omega) (by omega) (Nat.le_refl _) HJ.out.2.2.1 (HJ.out.1.one HK2.out.1 (by omega)) (HJ.out.1.two HK2.out.1 (by have := HK2.out; omega) (Nat.le_refl _)) (HCM.out.only HJ.out.2.2.2) _ _ _ (by first | rfl | omega | (simp only [wrap64]; omega)) (by first | rfl | omega | (simp only [wrap64]; omega)) (by first | rfl | omega | (simp only [wrap64]; omega))).mono ?_; rintro e w3 ⟨rfl, HR⟩))
                go_roundw
                case rel =>
                  obtain ⟨r, r1, r2, r3⟩ := HR.out
                  exact ⟨2 * s, r, by go_num, by omega, by omega, r1.mv.len.trans hm3, HJ.out.1.last (by omega) HK2.out.1 (by have := HK2.out; omega) r1, HJ.out.2.1.step r1 (Nat.le_refl _), r2, HJ.out.2.2.2.trans r3⟩
                case measure => simp [intOf]; omega
              · have hrz : ¬ (a2 : Int) + (s : Int) < (L : Int) := by omega
                go_wp2_with fail
                go_roundw
                case rel => exact ⟨2 * s, m3, by go_num, by omega, by omega, hm3, HJ.out.1.rest (by omega) HK2.out.1 (by omega), HJ.out.2.1, HJ.out.2.2.1, HJ.out.2.2.2⟩
                case measure => simp [intOf]; omega
        · have hslz : ¬ (s : Int) < (L : Int) := by omega
          go_wp2_with fail
          go_end0
          exact ⟨rfl, m2, ⟨HI.out.2.1.mv, HI.out.1.all (by omega), HI.out.2.1.same⟩, HI.out.2.2.1, HI.out.2.2.2⟩
end Go.Proofs.Ytkkmbpcmkhikkaa
