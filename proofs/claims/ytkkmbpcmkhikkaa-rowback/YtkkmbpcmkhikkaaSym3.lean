/- Merging. -/
import Derived.Test.YtkkmbpcmkhikkaaRot
import Derived.Deep.CutRange
import Derived.Deep.DeepCutAuto
import Derived.Deep.Cut
namespace Go.Proofs.Ytkkmbpcmkhikkaa
open Go.RowKit

theorem rot_at (f : Value) (g cap a m b L : Nat) (l : List Hd) (w : World) (za zm zb : Int) (ha : za = (a : Int)) (hm : zm = (m : Int)) (hb' : zb = (b : Int)) (hL : l.length = L) (ham : a < m) (hmb : m < b) (hb : b ≤ L) (hl : L ≤ 1000000) (hD : Dat w g l) :
    Calls Try.prog 77 #[.slice (some ⟨g, 0, none⟩) L cap, .int .i64 za, .int .i64 zm, .int .i64 zb, f] w (PRot w g a m b l) := by
  subst ha hm hb'
  exact rot_any f g cap a m b L l w hL ham hmb hb hl hD
set_option maxRecDepth 100000 in
set_option maxHeartbeats 4000000 in
theorem sym_gen (q : Nat) (cb : Array Value) (cf : List M.V → List M.V → Int) (ho : M.Ord (ltc cf)) (g cap a m b L : Nat) (l : List Hd) (w : World) (hL : l.length = L) (ham : a + 1 < m) (hmb : m + 1 < b) (hb : b ≤ L) (hl : L ≤ 1000000) (hD : Dat w g l) (h1 : M.Srt (ltc cf) a m l) (h2 : M.Srt (ltc cf) m b l) (hC : Cmps q cb cf g w)
    (ih : ∀ (a' m' b' : Nat) (l' : List Hd) (w' : World), b' - a' < b - a → l'.length = L → a' < m' → m' < b' → b' ≤ L → Dat w' g l' → M.Srt (ltc cf) a' m' l' → M.Srt (ltc cf) m' b' l' → Cmps q cb cf g w' → ∀ za zm zb : Int, za = (a' : Int) → zm = (m' : Int) → zb = (b' : Int) → Calls Try.prog 72 #[.slice (some ⟨g, 0, none⟩) L cap, .int .i64 za, .int .i64 zm, .int .i64 zb, .func (.func q) #[] cb] w' (PSort w' g cf a' b' l')) :
    Calls Try.prog 72 #[.slice (some ⟨g, 0, none⟩) L cap, .int .i64 (a : Int), .int .i64 (m : Int), .int .i64 (b : Int), .func (.func q) #[] cb] w (PSort w g cf a b l) := by
  have eg := hC.ent
  have HCM := hid hC
  have HO := hid ho
  have HS12 := hid (And.intro h1 h2)
  have HD := hid hD
  have IH := hid ih
  clear hC ho hD h1 h2 ih
  obtain ⟨mid, hmid⟩ : ∃ mid, mid = (a + b) / 2 := ⟨_, rfl⟩
  have emid : ((a : Int) + (b : Int)) / 2 = (mid : Int) := by omega
  have hmid1 : a < mid := by omega
  have hmid2 : mid < b := by omega
  have hmid3 : a + b ≤ mid + mid + 1 := by omega
  have hmid4 : mid + mid ≤ a + b := by omega
  clear hmid
  have hmz : ¬ (m : Int) - (a : Int) = 1 := by omega
  have hmz2 : ¬ (b : Int) - (m : Int) = 1 := by omega
  have hmz3 : ((m : Int) - (a : Int) == 1) = false := by simpa using hmz
  have hmz4 : ((b : Int) - (m : Int) == 1) = false := by simpa using hmz2
  go_enter Try.func72, Try.ntmps72
  go_upto_if 140 with fail
  go_cut [20, 21] from 138 to 146 (fun s r wx => ∃ c0 d0 : Nat, s = .int .i64 (c0 : Int) ∧ r = .int .i64 (d0 : Int) ∧ ((mid < m ∧ c0 = mid + m - b ∧ d0 = mid) ∨ (m ≤ mid ∧ c0 = a ∧ d0 = m)) ∧ wx = w)
  case first =>
    rcases Nat.lt_or_ge mid m with hc | hc
    · have hcz : (mid : Int) < (m : Int) := by omega
      go_wp2_with fail
      go_meet
      exact ⟨mid + m - b, mid, by first | rfl | (congr 1; omega) | (congr 1; simp only [wrap64]; omega), rfl, .inl ⟨hc, rfl, rfl⟩, rfl⟩
    · have hcz : ¬ (mid : Int) < (m : Int) := by omega
      go_wp2_with fail
      go_meet
      exact ⟨a, m, rfl, rfl, .inr ⟨hc, rfl, rfl⟩, rfl⟩
  case rest =>
    obtain ⟨c0, d0, rfl, rfl, hcd, hw⟩ := hcut
    subst hw
    obtain ⟨hc1, hc2, hc3, hc4, hc5⟩ : a ≤ c0 ∧ c0 ≤ d0 ∧ d0 ≤ m ∧ d0 ≤ mid ∧ mid + m ≤ b + c0 := by omega
    have HCD := hid hcd
    have HM := hid (M.mono_both HO.out HS12.out.1 HS12.out.2 hc1 hc3 (show d0 + m ≤ mid + m by omega) hc5)
    clear hcd
    obtain ⟨p, hp⟩ : ∃ p, p = mid + m - 1 := ⟨_, rfl⟩
    have ep : (mid : Int) + (m : Int) - 1 = (p : Int) := by omega
    have HP := hid hp
    have hp2 : m ≤ p + 1 - d0 ∧ p ≤ b + c0 - 1 := by omega
    clear hp
    generalize wc = w at *
    go_upto_region 33 with fail
    go_loopw [20, 21] (fun iv jv wr => ∃ (i j : Nat), iv = .int .i64 (i : Int) ∧ jv = .int .i64 (j : Int) ∧ c0 ≤ i ∧ i ≤ j ∧ j ≤ d0 ∧ Hid (M.Srch (fun k => !ltc cf l[mid + m - 1 - k]! l[k]!) c0 d0 i j ∧ Dat wr g l ∧ Only g w wr)) (fun iv jv _ => (intOf jv).toNat - (intOf iv).toNat)
    case atStart => exact ⟨c0, d0, rfl, rfl, by omega, by omega, by omega, M.Srch.start hc2, HD.out, Touch.refl _ _⟩
    case round =>
      obtain ⟨i, j, rfl, rfl, hmi, hij, hjb, HI⟩ := hrel
      clear HD
      by_cases hlt : i < j
      · have hltz : (i : Int) < (j : Int) := by omega
        obtain ⟨h, hh⟩ : ∃ h, h = (i + j) / 2 := ⟨_, rfl⟩
        have eh : ((i : Int) + (j : Int)) / 2 = (h : Int) := by omega
        have hh1 : i ≤ h := by omega
        have hh2 : h < j := by omega
        clear hh
        obtain ⟨ph, hph⟩ : ∃ ph, ph = p - h := ⟨_, rfl⟩
        have eph : (p : Int) - (h : Int) = (ph : Int) := by omega
        have hph2 : ph < L := by omega
        have hph3 : IntKind.i64.wrap (ph : Int) = (ph : Int) := by rw [IntKind.wrap_i64]; omega
        have h3 : (h : Int) < (L : Int) := by omega
        have h4 : (ph : Int) < (L : Int) := by omega
        have HPH := hid hph
        clear hph
        obtain ⟨x, hx⟩ : ∃ x, l[ph]! = x := ⟨_, rfl⟩
        obtain ⟨y, hy⟩ : ∃ y, l[h]! = y := ⟨_, rfl⟩
        have HX := hid (fun (w' : World) (hA : Adds wr w') => by have := (HI.out.2.1.adds hA).cell ph (by omega); rw [hx] at this; exact this)
        have HY := hid (fun (w' : World) (hA : Adds wr w') => by have := (HI.out.2.1.adds hA).cell h (by omega); rw [hy] at this; exact this)
        obtain ⟨z, hz⟩ : ∃ z, cf x.r y.r = z := ⟨_, rfl⟩
        have HC : Hid (∀ w', Adds wr w' → Calls Try.prog q (#[.slice x.a x.r.length x.cap, .slice y.a y.r.length y.cap] ++ cb) w' (Tells w' (.int .i64 z))) := hid (fun (w' : World) (hA : Adds wr w') => by
          have := HCM.out.run w' (HI.out.2.2.trans hA.only) x y (by have := (HI.out.2.1.adds hA).row (i := ph) (by omega); rw [hx] at this; exact this) (by have := (HI.out.2.1.adds hA).row (i := h) (by omega); rw [hy] at this; exact this)
          rw [hz] at this; exact this)
        have HZ := hid (show ltc cf l[ph]! l[h]! = decide (z < 0) by rw [hx, hy]; unfold ltc; rw [hz])
        clear hx hy hz
        have HZ2 := hid (show (!ltc cf l[mid + m - 1 - h]! l[h]!) = !decide (z < 0) by
          have := HZ.out
          rw [HPH.out, HP.out] at this
          rw [this])
        go_upto_region 35 with fail
        by_cases hz0 : z < 0
        · 
          refine H_begin (S := fun w' => Adds wr w') (by kernel_rfl) ?_
          have hS : Adds wr wr.drew := (Touch.refl _ wr).drew
          refine H_put (i := 0) 158 (v := .func (.func q) #[] cb) rfl rfl (by kernel_rfl) (by kernel_rfl) (by kernel_rfl) (fun _ _ _ h => h) (Or.inl ⟨by rfl, fun w' hw' => ?_⟩) hS ?_
          · go_simp
          simp only [Act.put, List.setIfInBounds_toArray, List.set_cons_zero, List.set_cons_succ]
          refine H_put (i := 1) 159 (v := .slice (some ⟨g, 0, none⟩) L cap) rfl rfl (by kernel_rfl) (by kernel_rfl) (by kernel_rfl) (fun _ _ _ h => h) (Or.inl ⟨by rfl, fun w' hw' => ?_⟩) hS ?_
          · go_simp
          simp only [Act.put, List.setIfInBounds_toArray, List.set_cons_zero, List.set_cons_succ]
          refine H_put (i := 2) 160 (v := .int .i64 (p : Int)) rfl rfl (by kernel_rfl) (by kernel_rfl) (by kernel_rfl) (fun _ _ _ h => h) (Or.inl ⟨by rfl, fun w' hw' => ?_⟩) hS ?_
          · go_simp
          simp only [Act.put, List.setIfInBounds_toArray, List.set_cons_zero, List.set_cons_succ]
          refine H_put (i := 3) 161 (v := .int .i64 (h : Int)) rfl rfl (by kernel_rfl) (by kernel_rfl) (by kernel_rfl) (fun _ _ _ h => h) (Or.inl ⟨by rfl, fun w' hw' => ?_⟩) hS ?_
          · go_simp
          simp only [Act.put, List.setIfInBounds_toArray, List.set_cons_zero, List.set_cons_succ]
          refine H_put (i := 4) 162 (v := .int .i64 (ph : Int)) rfl rfl (by kernel_rfl) (by kernel_rfl) (by kernel_rfl) (fun _ _ _ h => h) (Or.inl ⟨by rfl, fun w' hw' => ?_⟩) hS ?_
          · go_simp
          simp only [Act.put, List.setIfInBounds_toArray, List.set_cons_zero, List.set_cons_succ]
          refine H_put (i := 5) 163 (v := .pointer (some ⟨g, ph, none⟩)) rfl rfl (by kernel_rfl) (by kernel_rfl) (by kernel_rfl) (fun _ _ _ h => h) (Or.inl ⟨by rfl, fun w' hw' => ?_⟩) hS ?_
          · go_simp
          simp only [Act.put, List.setIfInBounds_toArray, List.set_cons_zero, List.set_cons_succ]
          refine H_put (i := 6) 164 (v := .slice x.a x.r.length x.cap) rfl rfl (by kernel_rfl) (by kernel_rfl) (by kernel_rfl) (fun _ _ _ h => h) (Or.inl ⟨by rfl, fun w' hw' => ?_⟩) hS ?_
          · have c0 := HX.out w' hw'; go_simp
          simp only [Act.put, List.setIfInBounds_toArray, List.set_cons_zero, List.set_cons_succ]
          refine H_put (i := 7) 165 (v := .slice (some ⟨g, 0, none⟩) L cap) rfl rfl (by kernel_rfl) (by kernel_rfl) (by kernel_rfl) (fun _ _ _ h => h) (Or.inl ⟨by rfl, fun w' hw' => ?_⟩) hS ?_
          · go_simp
          simp only [Act.put, List.setIfInBounds_toArray, List.set_cons_zero, List.set_cons_succ]
          refine H_put (i := 8) 166 (v := .int .i64 (h : Int)) rfl rfl (by kernel_rfl) (by kernel_rfl) (by kernel_rfl) (fun _ _ _ h => h) (Or.inl ⟨by rfl, fun w' hw' => ?_⟩) hS ?_
          · go_simp
          simp only [Act.put, List.setIfInBounds_toArray, List.set_cons_zero, List.set_cons_succ]
          refine H_put (i := 9) 167 (v := .pointer (some ⟨g, h, none⟩)) rfl rfl (by kernel_rfl) (by kernel_rfl) (by kernel_rfl) (fun _ _ _ h => h) (Or.inl ⟨by rfl, fun w' hw' => ?_⟩) hS ?_
          · go_simp
          simp only [Act.put, List.setIfInBounds_toArray, List.set_cons_zero, List.set_cons_succ]
          refine H_put (i := 10) 168 (v := .slice y.a y.r.length y.cap) rfl rfl (by kernel_rfl) (by kernel_rfl) (by kernel_rfl) (fun _ _ _ h => h) (Or.inl ⟨by rfl, fun w' hw' => ?_⟩) hS ?_
          · have c0 := HY.out w' hw'; go_simp
          simp only [Act.put, List.setIfInBounds_toArray, List.set_cons_zero, List.set_cons_succ]
          refine H_call (i := 11) 169 q (#[.slice x.a x.r.length x.cap, .slice y.a y.r.length y.cap] ++ cb) (R := Tells wr.drew (.int .i64 z)) (by kernel_rfl) rfl rfl (by rfl) (by go_simp) ?_ ?_
          · exact HC.out _ hS
          rintro e wa ⟨rfl, hwa⟩
          have Awa := hid (Touch.trans hS hwa)
          refine ⟨_, fun w' => Adds wa w', rfl, Touch.refl _ _, fun w' h => Awa.out.trans h, ?_⟩
          clear hS
          have hS : Adds wa wa := Touch.refl _ _
          simp only [Act.put, List.setIfInBounds_toArray, List.set_cons_zero, List.set_cons_succ]
          refine H_put (i := 12) 170 (v := .bool true) rfl rfl (by kernel_rfl) (by kernel_rfl) (by kernel_rfl) (fun _ _ _ h => h) (Or.inl ⟨by rfl, fun w' hw' => ?_⟩) hS ?_
          · go_simp
          simp only [Act.put, List.setIfInBounds_toArray, List.set_cons_zero, List.set_cons_succ]
          refine H_put (i := 13) 171 (v := .bool false) rfl rfl (by kernel_rfl) (by kernel_rfl) (by kernel_rfl) (fun _ _ _ h => h) (Or.inl ⟨by rfl, fun w' hw' => ?_⟩) hS ?_
          · go_simp
          simp only [Act.put, List.setIfInBounds_toArray, List.set_cons_zero, List.set_cons_succ]
          refine wpAnyH_done (by kernel_rfl) ?_ _
          go_wp2_with fail
          go_roundw
          case rel => exact ⟨i, h, rfl, rfl, hmi, hh1, by omega, HI.out.1.no hh1 hh2 (by rw [HZ2.out]; simpa using hz0) HM.out, HI.out.2.1.adds Awa.out, HI.out.2.2.trans (Adds.only Awa.out)⟩
          case measure => simp [intOf]; omega
        · 
          refine H_begin (S := fun w' => Adds wr w') (by kernel_rfl) ?_
          have hS : Adds wr wr.drew := (Touch.refl _ wr).drew
          refine H_put (i := 0) 158 (v := .func (.func q) #[] cb) rfl rfl (by kernel_rfl) (by kernel_rfl) (by kernel_rfl) (fun _ _ _ h => h) (Or.inl ⟨by rfl, fun w' hw' => ?_⟩) hS ?_
          · go_simp
          simp only [Act.put, List.setIfInBounds_toArray, List.set_cons_zero, List.set_cons_succ]
          refine H_put (i := 1) 159 (v := .slice (some ⟨g, 0, none⟩) L cap) rfl rfl (by kernel_rfl) (by kernel_rfl) (by kernel_rfl) (fun _ _ _ h => h) (Or.inl ⟨by rfl, fun w' hw' => ?_⟩) hS ?_
          · go_simp
          simp only [Act.put, List.setIfInBounds_toArray, List.set_cons_zero, List.set_cons_succ]
          refine H_put (i := 2) 160 (v := .int .i64 (p : Int)) rfl rfl (by kernel_rfl) (by kernel_rfl) (by kernel_rfl) (fun _ _ _ h => h) (Or.inl ⟨by rfl, fun w' hw' => ?_⟩) hS ?_
          · go_simp
          simp only [Act.put, List.setIfInBounds_toArray, List.set_cons_zero, List.set_cons_succ]
          refine H_put (i := 3) 161 (v := .int .i64 (h : Int)) rfl rfl (by kernel_rfl) (by kernel_rfl) (by kernel_rfl) (fun _ _ _ h => h) (Or.inl ⟨by rfl, fun w' hw' => ?_⟩) hS ?_
          · go_simp
          simp only [Act.put, List.setIfInBounds_toArray, List.set_cons_zero, List.set_cons_succ]
          refine H_put (i := 4) 162 (v := .int .i64 (ph : Int)) rfl rfl (by kernel_rfl) (by kernel_rfl) (by kernel_rfl) (fun _ _ _ h => h) (Or.inl ⟨by rfl, fun w' hw' => ?_⟩) hS ?_
          · go_simp
          simp only [Act.put, List.setIfInBounds_toArray, List.set_cons_zero, List.set_cons_succ]
          refine H_put (i := 5) 163 (v := .pointer (some ⟨g, ph, none⟩)) rfl rfl (by kernel_rfl) (by kernel_rfl) (by kernel_rfl) (fun _ _ _ h => h) (Or.inl ⟨by rfl, fun w' hw' => ?_⟩) hS ?_
          · go_simp
          simp only [Act.put, List.setIfInBounds_toArray, List.set_cons_zero, List.set_cons_succ]
          refine H_put (i := 6) 164 (v := .slice x.a x.r.length x.cap) rfl rfl (by kernel_rfl) (by kernel_rfl) (by kernel_rfl) (fun _ _ _ h => h) (Or.inl ⟨by rfl, fun w' hw' => ?_⟩) hS ?_
          · have c0 := HX.out w' hw'; go_simp
          simp only [Act.put, List.setIfInBounds_toArray, List.set_cons_zero, List.set_cons_succ]
          refine H_put (i := 7) 165 (v := .slice (some ⟨g, 0, none⟩) L cap) rfl rfl (by kernel_rfl) (by kernel_rfl) (by kernel_rfl) (fun _ _ _ h => h) (Or.inl ⟨by rfl, fun w' hw' => ?_⟩) hS ?_
          · go_simp
          simp only [Act.put, List.setIfInBounds_toArray, List.set_cons_zero, List.set_cons_succ]
          refine H_put (i := 8) 166 (v := .int .i64 (h : Int)) rfl rfl (by kernel_rfl) (by kernel_rfl) (by kernel_rfl) (fun _ _ _ h => h) (Or.inl ⟨by rfl, fun w' hw' => ?_⟩) hS ?_
          · go_simp
          simp only [Act.put, List.setIfInBounds_toArray, List.set_cons_zero, List.set_cons_succ]
          refine H_put (i := 9) 167 (v := .pointer (some ⟨g, h, none⟩)) rfl rfl (by kernel_rfl) (by kernel_rfl) (by kernel_rfl) (fun _ _ _ h => h) (Or.inl ⟨by rfl, fun w' hw' => ?_⟩) hS ?_
          · go_simp
          simp only [Act.put, List.setIfInBounds_toArray, List.set_cons_zero, List.set_cons_succ]
          refine H_put (i := 10) 168 (v := .slice y.a y.r.length y.cap) rfl rfl (by kernel_rfl) (by kernel_rfl) (by kernel_rfl) (fun _ _ _ h => h) (Or.inl ⟨by rfl, fun w' hw' => ?_⟩) hS ?_
          · have c0 := HY.out w' hw'; go_simp
          simp only [Act.put, List.setIfInBounds_toArray, List.set_cons_zero, List.set_cons_succ]
          refine H_call (i := 11) 169 q (#[.slice x.a x.r.length x.cap, .slice y.a y.r.length y.cap] ++ cb) (R := Tells wr.drew (.int .i64 z)) (by kernel_rfl) rfl rfl (by rfl) (by go_simp) ?_ ?_
          · exact HC.out _ hS
          rintro e wa ⟨rfl, hwa⟩
          have Awa := hid (Touch.trans hS hwa)
          refine ⟨_, fun w' => Adds wa w', rfl, Touch.refl _ _, fun w' h => Awa.out.trans h, ?_⟩
          clear hS
          have hS : Adds wa wa := Touch.refl _ _
          simp only [Act.put, List.setIfInBounds_toArray, List.set_cons_zero, List.set_cons_succ]
          refine H_put (i := 12) 170 (v := .bool false) rfl rfl (by kernel_rfl) (by kernel_rfl) (by kernel_rfl) (fun _ _ _ h => h) (Or.inl ⟨by rfl, fun w' hw' => ?_⟩) hS ?_
          · go_simp
          simp only [Act.put, List.setIfInBounds_toArray, List.set_cons_zero, List.set_cons_succ]
          refine H_put (i := 13) 171 (v := .bool true) rfl rfl (by kernel_rfl) (by kernel_rfl) (by kernel_rfl) (fun _ _ _ h => h) (Or.inl ⟨by rfl, fun w' hw' => ?_⟩) hS ?_
          · go_simp
          simp only [Act.put, List.setIfInBounds_toArray, List.set_cons_zero, List.set_cons_succ]
          refine wpAnyH_done (by kernel_rfl) ?_ _
          go_wp2_with fail
          go_roundw
          case rel => exact ⟨h + 1, j, by go_num, rfl, by omega, by omega, hjb, HI.out.1.yes hh1 hh2 (by rw [HZ2.out]; simpa using hz0) HM.out, HI.out.2.1.adds Awa.out, HI.out.2.2.trans (Adds.only Awa.out)⟩
          case measure => simp [intOf]; omega
      · have hltz : ¬ (i : Int) < (j : Int) := by omega
        obtain rfl : i = j := by omega
        generalize i = start at *
        have HF := hid (M.Half.of (lt := ltc cf) (l := l) (by omega) (by omega) hmid1 hmid2 HCD.out hmid3 hmid4 HI.out.1)
        have HQ := hid HI.out.2
        clear HI HM
        obtain ⟨en, hen⟩ : ∃ en, en = mid + m - start := ⟨_, rfl⟩
        have een : (mid : Int) + (m : Int) - (start : Int) = (en : Int) := by omega
        have hx1 := HF.out.lo
        have hx2 := HF.out.hi
        have hx3 := HF.out.smid
        have hx4 := HF.out.en
        rw [← hen] at hx4
        have hx5 : start + en = mid + m := by omega
        have HEN := hid hen
        clear hen hp2 hc1 hc2 hc3 hc4 hc5 hmi hjb hij hlt
        go_upto_region 39 with fail
        generalize wr = w1 at *
        go_cut [185] from 178 to 185 (fun t wx => t = .bool (decide (start < m ∧ m < en)) ∧ wx = w1)
        case first =>
          by_cases k1 : start < m
          · have k1z : (start : Int) < (m : Int) := by omega
            by_cases k2 : m < en
            · have k2z : (m : Int) < (en : Int) := by omega
              go_wp2_with fail
              go_meet
              exact ⟨by rw [decide_eq_true (show start < m ∧ m < en from ⟨k1, k2⟩)], rfl⟩
            · have k2z : ¬ (m : Int) < (en : Int) := by omega
              go_wp2_with fail
              go_meet
              exact ⟨by rw [decide_eq_false (show ¬ (start < m ∧ m < en) from fun c => k2 c.2)], rfl⟩
          · have k1z : ¬ (start : Int) < (m : Int) := by omega
            go_wp2_with fail
            go_meet
            exact ⟨by rw [decide_eq_false (show ¬ (start < m ∧ m < en) from fun c => k1 c.1)], rfl⟩
        case rest =>
          obtain ⟨rfl, hw⟩ := hcut
          subst hw
          go_upto_if 185 with fail
          go_cut [] from 178 to 191 (fun wx => Hid (∃ r, ((start < m ∧ m < mid + m - start → M.Rot start m (mid + m - start) l r ∧ r.Perm l ∧ r.length = l.length) ∧ (¬ (start < m ∧ m < mid + m - start) → r = l)) ∧ r.length = L ∧ Dat wx g r ∧ Only g w wx))
          case first =>
            by_cases k : start < m ∧ m < en
            · have kd : decide (start < m ∧ m < en) = true := decide_eq_true k
              go_wp2_with (first | (go_at_call 77; refine (rot_at _ g cap start m en L l _ _ _ _ (by first | rfl | omega | (simp only [wrap64]; omega)) (by first | rfl | omega | (simp only [wrap64]; omega)) (by first | rfl | omega | (simp only [wrap64]; omega)) hL k.1 k.2 (by omega) hl HQ.out.1).mono ?_; rintro e w2 ⟨rfl, HR⟩))
              go_meet
              obtain ⟨r, r1, r2, r3, r4, r5⟩ := HR.out
              rw [HEN.out] at r1
              exact ⟨r, ⟨fun _ => ⟨r1, r2, r3⟩, fun c => absurd (by rw [← HEN.out]; exact k) c⟩, r3.trans hL, r4, HQ.out.2.trans r5⟩
            · have kd : decide (start < m ∧ m < en) = false := decide_eq_false k
              go_wp2_with fail
              go_meet
              exact ⟨l, ⟨fun c => absurd (by rw [HEN.out]; exact c) k, fun _ => rfl⟩, hL, HQ.out.1, HQ.out.2⟩
          case rest =>
            have HR := hid hcut.out
            clear hcut HQ
            generalize wc = w2 at *
            go_upto_region 41 with fail
            go_cut [199] from 192 to 199 (fun t wx => t = .bool (decide (a < start ∧ start < mid)) ∧ wx = w2)
            case first =>
              by_cases k1 : a < start
              · have k1z : (a : Int) < (start : Int) := by omega
                by_cases k2 : start < mid
                · have k2z : (start : Int) < (mid : Int) := by omega
                  go_wp2_with fail
                  go_meet
                  exact ⟨by rw [decide_eq_true (show a < start ∧ start < mid from ⟨k1, k2⟩)], rfl⟩
                · have k2z : ¬ (start : Int) < (mid : Int) := by omega
                  go_wp2_with fail
                  go_meet
                  exact ⟨by rw [decide_eq_false (show ¬ (a < start ∧ start < mid) from fun c => k2 c.2)], rfl⟩
              · have k1z : ¬ (a : Int) < (start : Int) := by omega
                go_wp2_with fail
                go_meet
                exact ⟨by rw [decide_eq_false (show ¬ (a < start ∧ start < mid) from fun c => k1 c.1)], rfl⟩
            case rest =>
              obtain ⟨rfl, hw⟩ := hcut
              subst hw
              obtain ⟨r, hr1, hr2, hr3, hr4⟩ := HR.out
              have HR1 := hid hr1
              have HC5 := hid (HF.out.cut HO.out HS12.out.1 HS12.out.2 ⟨fun c => (hr1.1 c).1, hr1.2⟩)
              have HR2 := hid (And.intro hr3 hr4)
              clear HR hr1 hr3 hr4
              go_upto_if 199 with fail
              go_cut [] from 192 to 205 (fun wx => Hid (∃ s, M.Mrg (ltc cf) a mid r s ∧ s.length = L ∧ Dat wx g s ∧ Only g w wx))
              case first =>
                by_cases k : a < start ∧ start < mid
                · have kd : decide (a < start ∧ start < mid) = true := decide_eq_true k
                  go_wp2_with (first | (go_at_call 72; refine (IH.out a start mid r _ (by omega) hr2 k.1 k.2 (by omega) HR2.out.1 HC5.out.1 HC5.out.2.1 (HCM.out.only HR2.out.2) _ _ _ (by first | rfl | omega | (simp only [wrap64]; omega)) (by first | rfl | omega | (simp only [wrap64]; omega)) (by first | rfl | omega | (simp only [wrap64]; omega))).mono ?_; rintro e w3 ⟨rfl, HT⟩))
                  go_meet
                  obtain ⟨s, s1, s2, s3⟩ := HT.out
                  exact ⟨s, s1, s1.mv.len.trans hr2, s2, HR2.out.2.trans s3⟩
                · have kd : decide (a < start ∧ start < mid) = false := decide_eq_false k
                  go_wp2_with fail
                  go_meet
                  exact ⟨r, M.Mrg.none (HC5.out.1.one HC5.out.2.1 k), hr2, HR2.out.1, HR2.out.2⟩
              case rest =>
                obtain ⟨s, hs1, hs2, hs3, hs4⟩ := hcut.out
                have HT := hid (And.intro hs1 (And.intro hs3 hs4))
                have HC6 := hid (And.intro (HC5.out.2.2.1.out hs1.mv (.inr (Nat.le_refl _))) (HC5.out.2.2.2.1.out hs1.mv (.inr (by rw [← HEN.out]; omega))))
                rw [← HEN.out] at HC6
                clear hcut hs1 hs3 hs4 HR2
                generalize wc = w3 at *
                go_upto_region 43 with fail
                go_cut [213] from 206 to 213 (fun t wx => t = .bool (decide (mid < en ∧ en < b)) ∧ wx = w3)
                case first =>
                  by_cases k1 : mid < en
                  · have k1z : (mid : Int) < (en : Int) := by omega
                    by_cases k2 : en < b
                    · have k2z : (en : Int) < (b : Int) := by omega
                      go_wp2_with fail
                      go_meet
                      exact ⟨by rw [decide_eq_true (show mid < en ∧ en < b from ⟨k1, k2⟩)], rfl⟩
                    · have k2z : ¬ (en : Int) < (b : Int) := by omega
                      go_wp2_with fail
                      go_meet
                      exact ⟨by rw [decide_eq_false (show ¬ (mid < en ∧ en < b) from fun c => k2 c.2)], rfl⟩
                  · have k1z : ¬ (mid : Int) < (en : Int) := by omega
                    go_wp2_with fail
                    go_meet
                    exact ⟨by rw [decide_eq_false (show ¬ (mid < en ∧ en < b) from fun c => k1 c.1)], rfl⟩
                case rest =>
                  obtain ⟨rfl, hw⟩ := hcut
                  subst hw
                  by_cases k : mid < en ∧ en < b
                  · have kd : decide (mid < en ∧ en < b) = true := decide_eq_true k
                    go_wp2_with (first | (go_at_call 72; refine (IH.out mid en b s _ (by omega) hs2 k.1 k.2 hb HT.out.2.1 HC6.out.1 HC6.out.2 (HCM.out.only HT.out.2.2) _ _ _ (by first | rfl | omega | (simp only [wrap64]; omega)) (by first | rfl | omega | (simp only [wrap64]; omega)) (by first | rfl | omega | (simp only [wrap64]; omega))).mono ?_; rintro e w4 ⟨rfl, HU⟩))
                    go_end0
                    obtain ⟨t, t1, t2, t3⟩ := HU.out
                    exact ⟨rfl, t, M.mrg_sym HO.out HF.out HS12.out.1 HS12.out.2 HR1.out HT.out.1 t1, t2, HT.out.2.2.trans t3⟩
                  · have kd : decide (mid < en ∧ en < b) = false := decide_eq_false k
                    go_wp2_with fail
                    go_end0
                    exact ⟨rfl, s, M.mrg_sym HO.out HF.out HS12.out.1 HS12.out.2 HR1.out HT.out.1 (M.Mrg.none (HC6.out.1.one HC6.out.2 k)), HT.out.2.1, HT.out.2.2⟩
end Go.Proofs.Ytkkmbpcmkhikkaa
