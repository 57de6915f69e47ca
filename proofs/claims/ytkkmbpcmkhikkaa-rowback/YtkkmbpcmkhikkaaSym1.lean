/- Merging where the first part is one. -/
import Derived.Test.YtkkmbpcmkhikkaaRot
namespace Go.Proofs.Ytkkmbpcmkhikkaa
open Go.RowKit

set_option maxRecDepth 100000 in
set_option maxHeartbeats 2000000 in
theorem sym_one (q : Nat) (cb : Array Value) (cf : List M.V → List M.V → Int) (ho : M.Ord (ltc cf)) (g cap a m b L : Nat) (l : List Hd) (w : World) (hL : l.length = L) (hm : m = a + 1) (hmb : m < b) (hb : b ≤ L) (hl : L ≤ 1000000) (hD : Dat w g l) (h2 : M.Srt (ltc cf) m b l) (hC : Cmps q cb cf g w) :
    Calls Try.prog 72 #[.slice (some ⟨g, 0, none⟩) L cap, .int .i64 (a : Int), .int .i64 (m : Int), .int .i64 (b : Int), .func (.func q) #[] cb] w (PSort w g cf a b l) := by
  have eg := hC.ent
  have HCM := hid hC
  have HO := hid ho
  have HM := hid (M.mono_up ho l[a]! h2)
  have HS2 := hid h2
  have HS := hid (And.intro (M.Srch.start (p := fun k => ltc cf l[k]! l[a]!) (c := m) (d := b) (by omega)) (And.intro hD (Touch.refl (fun k => k = g) w)))
  clear hC ho hD h2
  have hmz : (m : Int) - (a : Int) = 1 := by omega
  go_enter Try.func72, Try.ntmps72
  go_upto_region 3 with fail
  go_loopw [10, 11] (fun iv jv wr => ∃ (i j : Nat), iv = .int .i64 (i : Int) ∧ jv = .int .i64 (j : Int) ∧ m ≤ i ∧ i ≤ j ∧ j ≤ b ∧ Hid (M.Srch (fun k => ltc cf l[k]! l[a]!) m b i j ∧ Dat wr g l ∧ Only g w wr)) (fun iv jv _ => (intOf jv).toNat - (intOf iv).toNat)
  case atStart => exact ⟨m, b, rfl, rfl, by omega, by omega, by omega, HS.out⟩
  case round =>
    obtain ⟨i, j, rfl, rfl, hmi, hij, hjb, HI⟩ := hrel
    clear HS
    by_cases hlt : i < j
    · have hltz : (i : Int) < (j : Int) := by omega
      obtain ⟨h, hh⟩ : ∃ h, h = (i + j) / 2 := ⟨_, rfl⟩
      have eh : ((i : Int) + (j : Int)) / 2 = (h : Int) := by omega
      have hh1 : i ≤ h := by omega
      have hh2 : h < j := by omega
      clear hh
      have h3 : (h : Int) < (L : Int) := by omega
      have h4 : (a : Int) < (L : Int) := by omega
      obtain ⟨x, hx⟩ : ∃ x, l[h]! = x := ⟨_, rfl⟩
      obtain ⟨y, hy⟩ : ∃ y, l[a]! = y := ⟨_, rfl⟩
      have HX := hid (fun (w' : World) (hA : Adds wr w') => by have := (HI.out.2.1.adds hA).cell h (by omega); rw [hx] at this; exact this)
      have HY := hid (fun (w' : World) (hA : Adds wr w') => by have := (HI.out.2.1.adds hA).cell a (by omega); rw [hy] at this; exact this)
      obtain ⟨z, hz⟩ : ∃ z, cf x.r y.r = z := ⟨_, rfl⟩
      have HC : Hid (∀ w', Adds wr w' → Calls Try.prog q (#[.slice x.a x.r.length x.cap, .slice y.a y.r.length y.cap] ++ cb) w' (Tells w' (.int .i64 z))) := hid (fun (w' : World) (hA : Adds wr w') => by
        have := HCM.out.run w' (HI.out.2.2.trans hA.only) x y (by have := (HI.out.2.1.adds hA).row (i := h) (by omega); rw [hx] at this; exact this) (by have := (HI.out.2.1.adds hA).row (i := a) (by omega); rw [hy] at this; exact this)
        rw [hz] at this; exact this)
      have HZ := hid (show ltc cf l[h]! l[a]! = decide (z < 0) by rw [hx, hy]; unfold ltc; rw [hz])
      clear hx hy hz
      go_upto_region 5 with fail
      by_cases hz0 : z < 0
      · 
        refine H_begin (S := fun w' => Adds wr w') (by kernel_rfl) ?_
        have hS : Adds wr wr.drew := (Touch.refl _ wr).drew
        refine H_put (i := 0) 40 (v := .func (.func q) #[] cb) rfl rfl (by kernel_rfl) (by kernel_rfl) (by kernel_rfl) (fun _ _ _ h => h) (Or.inl ⟨by rfl, fun w' hw' => ?_⟩) hS ?_
        · go_simp
        simp only [Act.put, List.setIfInBounds_toArray, List.set_cons_zero, List.set_cons_succ]
        refine H_put (i := 1) 41 (v := .slice (some ⟨g, 0, none⟩) L cap) rfl rfl (by kernel_rfl) (by kernel_rfl) (by kernel_rfl) (fun _ _ _ h => h) (Or.inl ⟨by rfl, fun w' hw' => ?_⟩) hS ?_
        · go_simp
        simp only [Act.put, List.setIfInBounds_toArray, List.set_cons_zero, List.set_cons_succ]
        refine H_put (i := 2) 42 (v := .int .i64 (h : Int)) rfl rfl (by kernel_rfl) (by kernel_rfl) (by kernel_rfl) (fun _ _ _ h => h) (Or.inl ⟨by rfl, fun w' hw' => ?_⟩) hS ?_
        · go_simp
        simp only [Act.put, List.setIfInBounds_toArray, List.set_cons_zero, List.set_cons_succ]
        refine H_put (i := 3) 43 (v := .pointer (some ⟨g, h, none⟩)) rfl rfl (by kernel_rfl) (by kernel_rfl) (by kernel_rfl) (fun _ _ _ h => h) (Or.inl ⟨by rfl, fun w' hw' => ?_⟩) hS ?_
        · go_simp
        simp only [Act.put, List.setIfInBounds_toArray, List.set_cons_zero, List.set_cons_succ]
        refine H_put (i := 4) 44 (v := .slice x.a x.r.length x.cap) rfl rfl (by kernel_rfl) (by kernel_rfl) (by kernel_rfl) (fun _ _ _ h => h) (Or.inl ⟨by rfl, fun w' hw' => ?_⟩) hS ?_
        · have c0 := HX.out w' hw'; go_simp
        simp only [Act.put, List.setIfInBounds_toArray, List.set_cons_zero, List.set_cons_succ]
        refine H_put (i := 5) 45 (v := .slice (some ⟨g, 0, none⟩) L cap) rfl rfl (by kernel_rfl) (by kernel_rfl) (by kernel_rfl) (fun _ _ _ h => h) (Or.inl ⟨by rfl, fun w' hw' => ?_⟩) hS ?_
        · go_simp
        simp only [Act.put, List.setIfInBounds_toArray, List.set_cons_zero, List.set_cons_succ]
        refine H_put (i := 6) 46 (v := .int .i64 (a : Int)) rfl rfl (by kernel_rfl) (by kernel_rfl) (by kernel_rfl) (fun _ _ _ h => h) (Or.inl ⟨by rfl, fun w' hw' => ?_⟩) hS ?_
        · go_simp
        simp only [Act.put, List.setIfInBounds_toArray, List.set_cons_zero, List.set_cons_succ]
        refine H_put (i := 7) 47 (v := .pointer (some ⟨g, a, none⟩)) rfl rfl (by kernel_rfl) (by kernel_rfl) (by kernel_rfl) (fun _ _ _ h => h) (Or.inl ⟨by rfl, fun w' hw' => ?_⟩) hS ?_
        · go_simp
        simp only [Act.put, List.setIfInBounds_toArray, List.set_cons_zero, List.set_cons_succ]
        refine H_put (i := 8) 48 (v := .slice y.a y.r.length y.cap) rfl rfl (by kernel_rfl) (by kernel_rfl) (by kernel_rfl) (fun _ _ _ h => h) (Or.inl ⟨by rfl, fun w' hw' => ?_⟩) hS ?_
        · have c0 := HY.out w' hw'; go_simp
        simp only [Act.put, List.setIfInBounds_toArray, List.set_cons_zero, List.set_cons_succ]
        refine H_call (i := 9) 49 q (#[.slice x.a x.r.length x.cap, .slice y.a y.r.length y.cap] ++ cb) (R := Tells wr.drew (.int .i64 z)) (by kernel_rfl) rfl rfl (by rfl) (by go_simp) ?_ ?_
        · exact HC.out _ hS
        rintro e wa ⟨rfl, hwa⟩
        have Awa := hid (Touch.trans hS hwa)
        refine ⟨_, fun w' => Adds wa w', rfl, Touch.refl _ _, fun w' h => Awa.out.trans h, ?_⟩
        clear hS
        have hS : Adds wa wa := Touch.refl _ _
        simp only [Act.put, List.setIfInBounds_toArray, List.set_cons_zero, List.set_cons_succ]
        refine H_put (i := 10) 50 (v := .bool true) rfl rfl (by kernel_rfl) (by kernel_rfl) (by kernel_rfl) (fun _ _ _ h => h) (Or.inl ⟨by rfl, fun w' hw' => ?_⟩) hS ?_
        · go_simp
        simp only [Act.put, List.setIfInBounds_toArray, List.set_cons_zero, List.set_cons_succ]
        refine wpAnyH_done (by kernel_rfl) ?_ _
        go_wp2_with fail
        go_roundw
        case rel => exact ⟨h + 1, j, by go_num, rfl, by omega, by omega, hjb, HI.out.1.yes hh1 hh2 (by rw [HZ.out]; simpa using hz0) HM.out, HI.out.2.1.adds Awa.out, HI.out.2.2.trans (Adds.only Awa.out)⟩
        case measure => simp [intOf]; omega
      · 
        refine H_begin (S := fun w' => Adds wr w') (by kernel_rfl) ?_
        have hS : Adds wr wr.drew := (Touch.refl _ wr).drew
        refine H_put (i := 0) 40 (v := .func (.func q) #[] cb) rfl rfl (by kernel_rfl) (by kernel_rfl) (by kernel_rfl) (fun _ _ _ h => h) (Or.inl ⟨by rfl, fun w' hw' => ?_⟩) hS ?_
        · go_simp
        simp only [Act.put, List.setIfInBounds_toArray, List.set_cons_zero, List.set_cons_succ]
        refine H_put (i := 1) 41 (v := .slice (some ⟨g, 0, none⟩) L cap) rfl rfl (by kernel_rfl) (by kernel_rfl) (by kernel_rfl) (fun _ _ _ h => h) (Or.inl ⟨by rfl, fun w' hw' => ?_⟩) hS ?_
        · go_simp
        simp only [Act.put, List.setIfInBounds_toArray, List.set_cons_zero, List.set_cons_succ]
        refine H_put (i := 2) 42 (v := .int .i64 (h : Int)) rfl rfl (by kernel_rfl) (by kernel_rfl) (by kernel_rfl) (fun _ _ _ h => h) (Or.inl ⟨by rfl, fun w' hw' => ?_⟩) hS ?_
        · go_simp
        simp only [Act.put, List.setIfInBounds_toArray, List.set_cons_zero, List.set_cons_succ]
        refine H_put (i := 3) 43 (v := .pointer (some ⟨g, h, none⟩)) rfl rfl (by kernel_rfl) (by kernel_rfl) (by kernel_rfl) (fun _ _ _ h => h) (Or.inl ⟨by rfl, fun w' hw' => ?_⟩) hS ?_
        · go_simp
        simp only [Act.put, List.setIfInBounds_toArray, List.set_cons_zero, List.set_cons_succ]
        refine H_put (i := 4) 44 (v := .slice x.a x.r.length x.cap) rfl rfl (by kernel_rfl) (by kernel_rfl) (by kernel_rfl) (fun _ _ _ h => h) (Or.inl ⟨by rfl, fun w' hw' => ?_⟩) hS ?_
        · have c0 := HX.out w' hw'; go_simp
        simp only [Act.put, List.setIfInBounds_toArray, List.set_cons_zero, List.set_cons_succ]
        refine H_put (i := 5) 45 (v := .slice (some ⟨g, 0, none⟩) L cap) rfl rfl (by kernel_rfl) (by kernel_rfl) (by kernel_rfl) (fun _ _ _ h => h) (Or.inl ⟨by rfl, fun w' hw' => ?_⟩) hS ?_
        · go_simp
        simp only [Act.put, List.setIfInBounds_toArray, List.set_cons_zero, List.set_cons_succ]
        refine H_put (i := 6) 46 (v := .int .i64 (a : Int)) rfl rfl (by kernel_rfl) (by kernel_rfl) (by kernel_rfl) (fun _ _ _ h => h) (Or.inl ⟨by rfl, fun w' hw' => ?_⟩) hS ?_
        · go_simp
        simp only [Act.put, List.setIfInBounds_toArray, List.set_cons_zero, List.set_cons_succ]
        refine H_put (i := 7) 47 (v := .pointer (some ⟨g, a, none⟩)) rfl rfl (by kernel_rfl) (by kernel_rfl) (by kernel_rfl) (fun _ _ _ h => h) (Or.inl ⟨by rfl, fun w' hw' => ?_⟩) hS ?_
        · go_simp
        simp only [Act.put, List.setIfInBounds_toArray, List.set_cons_zero, List.set_cons_succ]
        refine H_put (i := 8) 48 (v := .slice y.a y.r.length y.cap) rfl rfl (by kernel_rfl) (by kernel_rfl) (by kernel_rfl) (fun _ _ _ h => h) (Or.inl ⟨by rfl, fun w' hw' => ?_⟩) hS ?_
        · have c0 := HY.out w' hw'; go_simp
        simp only [Act.put, List.setIfInBounds_toArray, List.set_cons_zero, List.set_cons_succ]
        refine H_call (i := 9) 49 q (#[.slice x.a x.r.length x.cap, .slice y.a y.r.length y.cap] ++ cb) (R := Tells wr.drew (.int .i64 z)) (by kernel_rfl) rfl rfl (by rfl) (by go_simp) ?_ ?_
        · exact HC.out _ hS
        rintro e wa ⟨rfl, hwa⟩
        have Awa := hid (Touch.trans hS hwa)
        refine ⟨_, fun w' => Adds wa w', rfl, Touch.refl _ _, fun w' h => Awa.out.trans h, ?_⟩
        clear hS
        have hS : Adds wa wa := Touch.refl _ _
        simp only [Act.put, List.setIfInBounds_toArray, List.set_cons_zero, List.set_cons_succ]
        refine H_put (i := 10) 50 (v := .bool false) rfl rfl (by kernel_rfl) (by kernel_rfl) (by kernel_rfl) (fun _ _ _ h => h) (Or.inl ⟨by rfl, fun w' hw' => ?_⟩) hS ?_
        · go_simp
        simp only [Act.put, List.setIfInBounds_toArray, List.set_cons_zero, List.set_cons_succ]
        refine wpAnyH_done (by kernel_rfl) ?_ _
        go_wp2_with fail
        go_roundw
        case rel => exact ⟨i, h, rfl, rfl, hmi, hh1, by omega, HI.out.1.no hh1 hh2 (by rw [HZ.out]; simpa using hz0) HM.out, HI.out.2.1.adds Awa.out, HI.out.2.2.trans (Adds.only Awa.out)⟩
        case measure => simp [intOf]; omega
    · have hltz : ¬ (i : Int) < (j : Int) := by omega
      obtain rfl : i = j := by omega
      have HE := hid HI.out.1
      have HU := hid (And.intro (M.Up.start a i l) HI.out.2)
      clear HI HM
      go_upto_region 9 with fail
      generalize wr = w1 at *
      go_loopw [13] (fun kv wr => ∃ (k : Nat) (n : List Hd), kv = .int .i64 (k : Int) ∧ a ≤ k ∧ k + 1 ≤ i ∧ n.length = L ∧ Hid (M.Up a i k l n ∧ Dat wr g n ∧ Only g w wr)) (fun kv _ => i - (intOf kv).toNat)
      case atStart => exact ⟨a, l, rfl, by omega, by omega, hL, HU.out⟩
      case round =>
        obtain ⟨k, n, rfl, hak, hki, hn, HI⟩ := hrel
        clear HU
        by_cases hk : k + 1 < i
        · have hkz : (k : Int) < (i : Int) - 1 := by omega
          obtain ⟨x, hx⟩ : ∃ x, n[k]! = x := ⟨_, rfl⟩
          obtain ⟨y, hy⟩ : ∃ y, n[k + 1]! = y := ⟨_, rfl⟩
          have HX := hid (And.intro hx hy)
          obtain ⟨k1, hk1⟩ : ∃ k1, k1 = k + 1 := ⟨_, rfl⟩
          have e1 : (k : Int) + 1 = (k1 : Int) := by omega
          have e3 : k < k1 := by omega
          have e4 : ¬ k = k1 := by omega
          have e5 : ¬ k1 = k := by omega
          have h1 : (k : Int) < (L : Int) := by omega
          have h2 : (k1 : Int) < (L : Int) := by omega
          have ca := HI.out.2.1.cell k (by omega)
          have cb2 := HI.out.2.1.cell k1 (by omega)
          have fa := HI.out.2.1.fro k (by omega)
          have fb := HI.out.2.1.fro k1 (by omega)
          rw [hx] at ca
          rw [hk1, hy, ← hk1] at cb2
          have HL := hid hk1
          clear hx hy hk1
          go_upto_region 11 with fail
          go_region
          all_goals go_wp2_with fail
          go_roundw
          case rel =>
            have hl := HL.out
            have hsw := HI.out.2.1.drew.swap (i := k) (j := k1) (by omega) (by omega) (x := .slice x.a x.r.length x.cap) (y := .slice y.a y.r.length y.cap) (by rw [HX.out.1]) (by rw [hl, HX.out.2])
            have hst := HI.out.1.step hak (by omega)
            rw [← hl] at hst
            exact ⟨k1, M.swp n k k1, by first | rfl | go_num, by omega, by omega, by rw [M.len_swp]; exact hn, hst, hsw.1, (HI.out.2.2.trans ((Touch.refl _ _).drew)).trans hsw.2⟩
          case measure => have := HL.out; simp [intOf]; omega
        · have hkz : ¬ (k : Int) < (i : Int) - 1 := by omega
          obtain rfl : k = i - 1 := by omega
          go_wp2_with fail
          go_end0
          have hE := HE.out
          exact ⟨rfl, n, M.mrg_up HO.out HI.out.1 (by omega) (by omega) (by rw [← hm]; exact HS2.out) (fun q h1 h2 => hE.lo q (by omega) h2) (fun q h1 h2 => hE.hi q h1 h2), HI.out.2.1, HI.out.2.2⟩
end Go.Proofs.Ytkkmbpcmkhikkaa
