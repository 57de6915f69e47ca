/- BlobBack. -/
import Derived.Test.YtjlennpoaefllaaGreatDoorQ40
import Derived.Test.YtjlennpoaefllaaGreatDoorQ42
import Derived.Deep.CutBlock
import Derived.Deep.DeepCutAuto
import Derived.Deep.CutRange
import Derived.Deep.RegionWith
import Derived.Deep.QuietTactic
import Derived.BigQuiet
namespace Go.Proofs.YtjlennpoaefllaaGreatDoor
open Go.RowKit
set_option maxRecDepth 100000 in
theorem bb_start {w0 w : World} {X : List (Nat × Obj)} {p dp n c : Nat} {s : F.Po} {D : dSt} {f : Nat → Bool} (h : LpX w0 w X p dp s D n 0) (hk : K.Sp c f s) : Bb w0 w X p dp D n c (.slice none 0 0) (.slice none 0 0) f [] := by
  refine ⟨s, ⟨h, World.ownsRow_nil _ _ _ _, World.ownsRow_nil _ _ _ _, fun x _ e => (by cases e), fun x _ e => (by cases e)⟩, K.Bk.none hk⟩
set_option maxRecDepth 100000 in
theorem eq_space_some13 (l : Nat) (w : World) : (binOp .eql 37 (.pointer (some ⟨l, 0, none⟩)) (.pointer none)).run Tryz.prog w = .ok (.bool false) w := by kernel_rfl
set_option maxRecDepth 100000 in
set_option maxHeartbeats 8000000 in
theorem back13 (a : Option Addr) (len cap : Nat) (drop : Int) (w : World) (hT : Tab w) (hat : NumsAt w a len) : Calls Tryz.prog 7 #[.slice a len cap, .int .i64 drop] w (Adding (.bool true) w) := by
  have HM := hid (show Calls Tryz.prog 19 #[.int .i64 60, .int .i64 60] w (PMade w 60 60) from kmade_any 60 60 (by decide) (by decide) (by decide) (by decide) w hT)
  have HWk := hid (fun w' (hA : Adds w w') => works13 w' (hT.adds hA))
  have HAt := hid hat
  have hns := eq_space_some13
  clear hT hat
  go_enter Tryz.func7, Tryz.ntmps7
  go_upto_region 2 with (go_at_call 19; refine HM.out.mono ?_; rintro e w1 ⟨sp, p, d, q, r, rfl, H1⟩)
  have HSp := hid (K.s0_sp (c := 60) (m := 60) (by decide) (by decide) (by decide) H1.out.1.good)
  have HBs := hid H1.out.1.base
  obtain ⟨Y, hL, _⟩ := H1.out.1.lpx
  obtain ⟨X, hX⟩ : ∃ X, X = [(sp, SBox p)] ++ Y := ⟨_, rfl⟩
  rw [← hX] at hL
  have HMe := hid (show (sp, SBox p) ∈ X by rw [hX]; exact List.mem_append_left _ List.mem_cons_self)
  obtain ⟨D, hD⟩ : ∃ D, D = dSt.new (60 : Nat) := ⟨_, rfl⟩
  rw [← hD] at hL
  have HB0 := hid (bb_start hL HSp.out)
  clear hL hX hD HM HSp H1
  unfold Ptr at *
  go_upto_region 4 with (go_at_call 18; refine (HWk.out w1 HBs.out).mono ?_; rintro e w2 ⟨rfl, hA2⟩; have HB2 := hid (HB0.out.adds hA2); clear hA2)
  clear HB0 HBs
  go_wp2_with fail
  go_loopw [7, 8, 9, 10] (fun vv uu us i wr => ∃ (k : Nat) (f : Nat → Bool) (B : List (List Nat × List UInt8)) (v u : Value), v = vv ∧ u = uu ∧ k ≤ 8 ∧ B.length ≤ k ∧ i = .int .i64 (k : Int) ∧ us = .int .i64 (K.cntT 60 f : Int) ∧ Hid (Bb w wr X p d D (10 + 250 * k) 60 v u f B)) (fun _ _ _ i _ => 8 - (intOf i).toNat)
  case atStart => exact ⟨0, _, [], _, _, rfl, rfl, Nat.zero_le _, Nat.le_refl _, rfl, rfl, HB2.out⟩
  case round =>
    obtain ⟨k, f, B, v, u, rfl, rfl, hk, hBk, rfl, rfl, HB⟩ := hrel
    have HBl := hid hBk
    clear hBk
    have HA := hid HB.out.base
    obtain ⟨cn, hcn⟩ : ∃ cn, cn = K.cntT 60 f := ⟨_, rfl⟩
    have hcn60 : cn ≤ 60 := by rw [hcn]; exact K.cnt_le f 60
    rw [← hcn]
    by_cases hlt : k < len ∧ k < 8
    · have d1 : decide (k < len) = true := by simpa using hlt.1
      have d2 : decide ((k : Int) < 8) = true := by simp; omega
      have d3 : decide (k < 8) = true := by simpa using hlt.2
      have d4 : decide ((k : Int) < (len : Int)) = true := by simp; omega
      obtain ⟨b0, o, z, rfl, hc⟩ := HAt.out k hlt.1
      have hcell : wr.cell? ⟨b0, o + k, none⟩ = some (.int .i64 z) := below_adds HA.out hc
      obtain ⟨L, hL⟩ : ∃ L, L = bodyN z := ⟨_, rfl⟩
      obtain ⟨bs, hbs⟩ : ∃ bs, bs = bodyL (UInt8.ofNat k) L := ⟨_, rfl⟩
      have hk8 : ((UInt8.ofNat k).toNat : Int) = (k : Int) := by
        have h1 : (UInt8.ofNat k).toNat = k % 2 ^ 8 := rfl
        rw [h1]
        omega
      have HBo := body_any z (UInt8.ofNat k) wr
      rw [← hL, ← hbs, hk8] at HBo
      have HBo := hid HBo
      have hL9 : L ≤ 4199 := by rw [hL]; unfold bodyN; omega
      have HLb := hid (show bs.length = L by rw [hbs, len_bodyL])
      have HK := hid hlt
      have hlt1 := hlt.1
      have hlt2 := hlt.2
      obtain ⟨g, hg⟩ : ∃ g, g = wr.heap.size := ⟨_, rfl⟩
      have HGe := hid (fun (w3 : World) (H : w3.heap[wr.heap.size]? = some (.cells (S bs).toArray 5 (0, 0)) ∧ Adds wr w3 ∧ w3.heap.size = wr.heap.size + 1) => show Bb w w3 ((g, .cells (S bs).toArray 5 (0, 0)) :: X) p d D (10 + 250 * k) 60 v u f B by
        rw [hg]
        exact HB.out.more H.2.1 _ _ H.1 (Nat.le_refl _))
      have HBx := hid (show Bx ((g, .cells (S bs).toArray 5 (0, 0)) :: X) g bs from ⟨_, _, List.mem_cons_self, fun i c hi => by simp [S, hi, B8]⟩)
      have HMe2 := hid (show (sp, SBox p) ∈ ((g, .cells (S bs).toArray 5 (0, 0)) : Nat × Obj) :: X from List.mem_cons_of_mem _ HMe.out)
      have HPg := hid (fun w' => xpages_any w' L (by omega))
      obtain ⟨pg, hpg⟩ : ∃ pg, pg = K.pages L := ⟨_, rfl⟩
      have HCn := hid hcn
      have HPq := hid hpg
      rw [← hpg] at HPg
      clear hL hbs hk8 hlt hc hcn hpg
      go_upto_region 11 with (go_at_call 28; refine HBo.out.mono ?_; rintro e w3 ⟨rfl, H3⟩)
      rw [← hg]
      have HG3 := hid (HGe.out w3 H3.out)
      clear hg HGe H3 HBo hcell
      by_cases hbig : 4000 < L
      · have hbig' : (4000 : Int) < (L : Int) := by omega
        have HP := hid (bb_put_big HG3.out HMe2.out g bs L L HBx.out HLb.out hbig (by omega) (Nat.le_refl _) (by have := HK.out.2; omega))
        go_wp2_with (go_at_call 24; refine HP.out.mono ?_; rintro e w4 ⟨rfl, H4⟩)
        go_roundw
        case rel => exact ⟨k + 1, f, B, _, _, rfl, rfl, by have := HK.out.2; omega, by have := HBl.out; omega, by go_num, by rw [HCn.out], (H4.out.le (by omega)).fewer (fun y hy => List.mem_cons_of_mem _ hy)⟩
        case measure => have := HK.out.2; simp [intOf]; omega
      · have hbig' : ¬ (4000 : Int) < (L : Int) := by omega
        have hpg9 : pg ≤ 18 := by have := K.pages_le (n := L) (by omega); rw [HPq.out]; omega
        have hpg9i : (pg : Int) ≤ 18 := by omega
        have hcn9i : (cn : Int) ≤ 60 := by omega
        by_cases hfull : 60 < cn + pg
        · have hfull' : (60 : Int) < (cn : Int) + (pg : Int) := by omega
          have HP := hid (bb_put_full HG3.out HMe2.out g bs L L HBx.out HLb.out (by omega) (Nat.le_refl _) (by have := HK.out.2; omega) (by rw [← HCn.out, ← HPq.out]; exact hfull))
          go_wp2_with (first
            | (go_at_call 24; refine HP.out.mono ?_; rintro e w4 ⟨zz, rfl, H4⟩)
            | (go_at_call 22; refine (HPg.out _).mono ?_; rintro e _ ⟨rfl, hw⟩; rw [hw]; clear hw))
          go_ret
          exact ⟨rfl, H4.out⟩
        · have hfull' : ¬ (60 : Int) < (cn : Int) + (pg : Int) := by omega
          have hfull2 : decide ((60 : Int) < (cn : Int) + (pg : Int)) = false := decide_eq_false hfull'
          have HP := hid (bb_put_ok HG3.out HMe2.out g bs L L HBx.out HLb.out (by omega) (Nat.le_refl _) (by have := HK.out.2; omega) (by rw [← HCn.out, ← HPq.out]; omega))
          go_upto_region 20 with (first
            | (go_at_call 24; refine HP.out.mono ?_; rintro e w4 ⟨zz, f2, rfl, H4⟩)
            | (go_at_call 22; refine (HPg.out _).mono ?_; rintro e _ ⟨rfl, hw⟩; rw [hw]; clear hw))
          obtain ⟨ns, s4, hz, hSr, hBk, hct⟩ := H4.out
          have HSr := hid hSr
          have HBk := hid hBk
          have HCt := hid (show K.cntT 60 f2 = cn + pg by rw [hct, HCn.out, HPq.out])
          have HZz := hid hz
          clear hz hSr hBk hct H4 HP HG3
          go_cut [7, 8] (fun v2 u2 wx => Hid (Bb w wx X p d D (10 + 250 * k + 210) 60 v2 u2 f2 (B ++ [(ns, bs)])))
          case first =>
            have hcv0 : (convert 43 9 (.slice (some ⟨g, 0, none⟩) L L)).run Tryz.prog w4.drew = .ok (.string ⟨bs.toArray⟩) w4.drew := (HSr.out.adds (adds_drew w4)).conv HBx.out HLb.out
            have hcv1 : ∀ o, (convert 43 9 (.slice (some ⟨g, 0, none⟩) L L)).run Tryz.prog (w4.drew.alloc o) = .ok (.string ⟨bs.toArray⟩) (w4.drew.alloc o) := fun o => (HSr.out.adds ((adds_drew w4).alloc o)).conv HBx.out HLb.out
            have hcv2 : ∀ o, (convert 43 9 (.slice (some ⟨g, 0, none⟩) L L)).run Tryz.prog (w4.alloc o).drew = .ok (.string ⟨bs.toArray⟩) (w4.alloc o).drew := fun o => (HSr.out.adds ((Touch.refl _ w4).alloc o).drew).conv HBx.out HLb.out
            have HLow := hid (fun m (hm : w4.heap.size ≤ m) => HSr.out.low m hm)
            have HN1 := hid (show (firsts B).length ≤ 10000000 by unfold firsts; rw [List.length_map]; have := HBl.out; have := HK.out.2; omega)
            have HN2 := hid (show (bodies B).length ≤ 10000000 by unfold bodies; rw [List.length_map]; have := HBl.out; have := HK.out.2; omega)
            have HA1 : ∀ o, Adds w4 (w4.alloc o).drew := fun o => ((Touch.refl _ w4).alloc o).drew
            have HA2 : ∀ o o', Adds w4 ((w4.alloc o).alloc o').drew := fun o o' => (((Touch.refl _ w4).alloc o).alloc o').drew
            have cA : ∀ (v : Value) (t : TypeId), (w4.alloc (.cells #[v] t)).drew.cell? ⟨w4.heap.size, 0, none⟩ = some v := fun v t => c_dr (c_new _ _ _ _ rfl)
            have cB : ∀ (v : Value) (t : TypeId) (o : Obj), ((w4.alloc (.cells #[v] t)).alloc o).drew.cell? ⟨w4.heap.size, 0, none⟩ = some v := fun v t o => c_dr (c_old _ _ _ _ _ rfl)
            have cC : ∀ (v : Value) (t : TypeId) (o : Obj), ((w4.alloc o).alloc (.cells #[v] t)).drew.cell? ⟨w4.heap.size + 1, 0, none⟩ = some v := fun v t o => c_dr (c_new _ _ _ _ (by simp))
            have HA1 := hid HA1
            have HA2 := hid HA2
            have cA := hid cA
            have cB := hid cB
            have cC := hid cC
            have HEnd := hid (fun (W : World) (v6 u6 : Value) (hF : Sr w W ((g, .cells (S bs).toArray 5 (0, 0)) :: X) p d s4 D (10 + 250 * k + 210) 0 v6 (firsts B ++ [zz]) u6 (bodies B ++ [bs])) => show Bb w W X p d D (10 + 250 * k + 210) 60 v6 u6 f2 (B ++ [(ns, bs)]) from
              ⟨s4, by
                have e1 : firsts (B ++ [(ns, bs)]) = firsts B ++ [zz] := by rw [HZz.out]; simp [firsts]
                have e2 : bodies (B ++ [(ns, bs)]) = bodies B ++ [bs] := by simp [bodies]
                rw [e1, e2]
                exact hF.fewer (fun y hy => List.mem_cons_of_mem _ hy), HBk.out⟩)
            go_region_law (first
              | (refine step_kiS (HSr.out.adds (HA1.out _)) rfl (.tmp 85) (.tmp 87) rfl rfl _ zz rfl (cA.out _ _) HN1.out ?_; intro v5 w5 h5 hT5; have HN5 := hid h5; have HT5 := hid hT5; have hcv5 := h5.conv HBx.out HLb.out; have hcv6 := fun o => (h5.adds ((Touch.refl _ w5).alloc o)).conv HBx.out HLb.out; clear h5 hT5)
              | (refine step_ksS (HSr.out.adds (HA1.out _)) rfl (.tmp 89) (.tmp 92) rfl rfl _ bs rfl (cA.out _ _) HN2.out ?_; intro v5 w5 h5 hT5; have HS5 := hid h5; have HT5 := hid hT5; clear h5 hT5)
              | (refine step_kiS (HSr.out.adds (HA2.out _ _)) rfl (.tmp 85) (.tmp 87) rfl rfl _ zz rfl (cB.out _ _ _) HN1.out ?_; intro v5 w5 h5 hT5; have HN5 := hid h5; have HT5 := hid hT5; have hcv5 := h5.conv HBx.out HLb.out; have hcv6 := fun o => (h5.adds ((Touch.refl _ w5).alloc o)).conv HBx.out HLb.out; clear h5 hT5)
              | (refine step_ksS (HSr.out.adds (HA2.out _ _)) rfl (.tmp 89) (.tmp 92) rfl rfl _ bs rfl (cB.out _ _ _) HN2.out ?_; intro v5 w5 h5 hT5; have HS5 := hid h5; have HT5 := hid hT5; clear h5 hT5)
              | (refine step_kiS (HSr.out.adds (HA2.out _ _)) rfl (.tmp 85) (.tmp 87) rfl rfl _ zz rfl (cC.out _ _ _) HN1.out ?_; intro v5 w5 h5 hT5; have HN5 := hid h5; have HT5 := hid hT5; have hcv5 := h5.conv HBx.out HLb.out; have hcv6 := fun o => (h5.adds ((Touch.refl _ w5).alloc o)).conv HBx.out HLb.out; clear h5 hT5)
              | (refine step_ksS (HSr.out.adds (HA2.out _ _)) rfl (.tmp 89) (.tmp 92) rfl rfl _ bs rfl (cC.out _ _ _) HN2.out ?_; intro v5 w5 h5 hT5; have HS5 := hid h5; have HT5 := hid hT5; clear h5 hT5)
              | (refine step_kiS (HS5.out.adds (Touch.refl _ _)) rfl (.tmp 85) (.tmp 87) rfl rfl _ zz rfl (c_touch HT5.out (HLow.out _ (Nat.le_refl _)).2 (cB.out _ _ _)) HN1.out ?_; intro v6 w6 h6 hT6; have HF := hid h6; clear h6 hT6)
              | (refine step_kiS (HS5.out.adds (Touch.refl _ _)) rfl (.tmp 85) (.tmp 87) rfl rfl _ zz rfl (c_touch HT5.out (HLow.out _ (Nat.le_succ _)).2 (cC.out _ _ _)) HN1.out ?_; intro v6 w6 h6 hT6; have HF := hid h6; clear h6 hT6)
              | (refine step_kiS (HS5.out.adds (Touch.refl _ _)) rfl (.tmp 85) (.tmp 87) rfl rfl _ zz rfl (c_touch HT5.out (HLow.out _ (Nat.le_refl _)).2 (cA.out _ _)) HN1.out ?_; intro v6 w6 h6 hT6; have HF := hid h6; clear h6 hT6)
              | (refine step_kiS (HS5.out.adds ((Touch.refl _ _).alloc _)) rfl (.tmp 85) (.tmp 87) rfl rfl _ zz rfl (c_new _ _ _ _ rfl) HN1.out ?_; intro v6 w6 h6 hT6; have HF := hid h6; clear h6 hT6)
              | (refine step_kiS (HS5.out.adds ((Touch.refl _ _).alloc _)) rfl (.tmp 85) (.tmp 87) rfl rfl _ zz rfl (below_adds ((Touch.refl _ _).alloc _) (c_touch HT5.out (HLow.out _ (Nat.le_refl _)).2 (cB.out _ _ _))) HN1.out ?_; intro v6 w6 h6 hT6; have HF := hid h6; clear h6 hT6)
              | (refine step_kiS (HS5.out.adds ((Touch.refl _ _).alloc _)) rfl (.tmp 85) (.tmp 87) rfl rfl _ zz rfl (below_adds ((Touch.refl _ _).alloc _) (c_touch HT5.out (HLow.out _ (Nat.le_succ _)).2 (cC.out _ _ _))) HN1.out ?_; intro v6 w6 h6 hT6; have HF := hid h6; clear h6 hT6)
              | (refine step_kiS (HS5.out.adds ((Touch.refl _ _).alloc _)) rfl (.tmp 85) (.tmp 87) rfl rfl _ zz rfl (below_adds ((Touch.refl _ _).alloc _) (c_touch HT5.out (HLow.out _ (Nat.le_refl _)).2 (cA.out _ _))) HN1.out ?_; intro v6 w6 h6 hT6; have HF := hid h6; clear h6 hT6)
              | (refine step_ksS (HN5.out.adds (Touch.refl _ _)) rfl (.tmp 89) (.tmp 92) rfl rfl _ bs rfl (c_touch HT5.out (HLow.out _ (Nat.le_refl _)).1 (cB.out _ _ _)) HN2.out ?_; intro v6 w6 h6 hT6; have HF := hid h6; clear h6 hT6)
              | (refine step_ksS (HN5.out.adds (Touch.refl _ _)) rfl (.tmp 89) (.tmp 92) rfl rfl _ bs rfl (c_touch HT5.out (HLow.out _ (Nat.le_succ _)).1 (cC.out _ _ _)) HN2.out ?_; intro v6 w6 h6 hT6; have HF := hid h6; clear h6 hT6)
              | (refine step_ksS (HN5.out.adds (Touch.refl _ _)) rfl (.tmp 89) (.tmp 92) rfl rfl _ bs rfl (c_touch HT5.out (HLow.out _ (Nat.le_refl _)).1 (cA.out _ _)) HN2.out ?_; intro v6 w6 h6 hT6; have HF := hid h6; clear h6 hT6)
              | (refine step_ksS (HN5.out.adds ((Touch.refl _ _).alloc _)) rfl (.tmp 89) (.tmp 92) rfl rfl _ bs rfl (c_new _ _ _ _ rfl) HN2.out ?_; intro v6 w6 h6 hT6; have HF := hid h6; clear h6 hT6)
              | (refine step_ksS (HN5.out.adds ((Touch.refl _ _).alloc _)) rfl (.tmp 89) (.tmp 92) rfl rfl _ bs rfl (below_adds ((Touch.refl _ _).alloc _) (c_touch HT5.out (HLow.out _ (Nat.le_refl _)).1 (cB.out _ _ _))) HN2.out ?_; intro v6 w6 h6 hT6; have HF := hid h6; clear h6 hT6)
              | (refine step_ksS (HN5.out.adds ((Touch.refl _ _).alloc _)) rfl (.tmp 89) (.tmp 92) rfl rfl _ bs rfl (below_adds ((Touch.refl _ _).alloc _) (c_touch HT5.out (HLow.out _ (Nat.le_succ _)).1 (cC.out _ _ _))) HN2.out ?_; intro v6 w6 h6 hT6; have HF := hid h6; clear h6 hT6)
              | (refine step_ksS (HN5.out.adds ((Touch.refl _ _).alloc _)) rfl (.tmp 89) (.tmp 92) rfl rfl _ bs rfl (below_adds ((Touch.refl _ _).alloc _) (c_touch HT5.out (HLow.out _ (Nat.le_refl _)).1 (cA.out _ _))) HN2.out ?_; intro v6 w6 h6 hT6; have HF := hid h6; clear h6 hT6))
            all_goals
              go_wp2
              go_meet
              case rel => exact HEnd.out _ _ _ HF.out
          case rest =>
            have HB5 := hid hcut.out
            have HTk := hid (bb_taken HB5.out HMe.out (by have := HK.out.2; omega))
            obtain ⟨c2, hc2⟩ : ∃ c2, c2 = K.cntT 60 f2 := ⟨_, rfl⟩
            rw [← hc2] at HTk HCt
            have HC2 := hid hc2
            have hcc : (c2 : Int) = (cn : Int) + (pg : Int) := by rw [HCt.out]; omega
            have hcc2 : decide ((c2 : Int) = (cn : Int) + (pg : Int)) = true := decide_eq_true hcc
            clear hc2 hcut
            go_wp2_with (go_at_call 29; refine HTk.out.mono ?_; rintro e w6 ⟨a6, cap6, rfl, H6⟩)
            go_roundw
            case rel => exact ⟨k + 1, f2, _, _, _, rfl, rfl, by have := HK.out.2; omega, by have := HBl.out; simp; omega, by go_num, by rw [← HC2.out]; first | rw [hcc] | rfl, H6.out.le (by omega)⟩
            case measure => have := HK.out.2; simp [intOf]; omega
    · have hfin : ¬ (k < len ∧ k < 8) := hlt
      have HCn := hid hcn
      clear hcn
      go_upto_region 8 with fail
      go_cut [49] from 42 to 106 (fun v5 wx => v5 = .bool false ∧ wx = wr)
      case first =>
        by_cases hl : k < len
        · have d1 : decide ((k : Int) < (len : Int)) = true := by simpa using hl
          have d2 : decide ((k : Int) < 8) = false := by simp; omega
          have d3 : ¬ (k : Int) < 8 := by omega
          go_wp2_with fail
          all_goals (go_meet; case rel => exact ⟨rfl, rfl⟩)
        · have d1 : decide ((k : Int) < (len : Int)) = false := by simpa using hl
          have d3 : ¬ (k : Int) < (len : Int) := by omega
          go_wp2_with fail
          all_goals (go_meet; case rel => exact ⟨rfl, rfl⟩)
      case rest =>
        obtain ⟨rfl, hwc⟩ := hcut
        rw [hwc]
        clear hwc hlt hfin
        obtain ⟨Z, hLb, hXZ, hAg, hSg⟩ := HB.out.lb
        obtain ⟨m, hm⟩ : ∃ m, m = B.length := ⟨_, rfl⟩
        have HM := hid hm
        have hf1 : (firsts B).length = m := by rw [hm]; exact List.length_map _
        have hb1 : (bodies B).length = m := by rw [hm]; exact List.length_map _
        have hAg' := hAg
        have hSg' := hSg
        obtain ⟨va, vc, hv, _⟩ := hAg'
        obtain ⟨ua, uc, hu, _⟩ := hSg'
        rw [hf1] at hv
        rw [hb1] at hu
        subst hv
        subst hu
        have hm8 : m ≤ 8 := by have := HBl.out; omega
        have HAg := hid hAg
        have HSg := hid hSg
        have HF1 := hid hf1
        have HB1 := hid hb1
        have HPg := hid hLb.pages
        have HMeZ := hid (hXZ _ HMe.out)
        obtain ⟨gS, hgS⟩ : ∃ gS, gS = wr.heap.size := ⟨_, rfl⟩
        have HSn := hid (show Sn w (wr.alloc (.cells (arr60 fun _ => false) 72)) Z p d D (10 + 250 * k) 60 f B gS (fun _ => false) from by
          refine ⟨hLb.more ((Touch.refl _ wr).alloc _) gS _ (by rw [hgS]; exact heap_alloc_new wr _) (by omega), fun y hy e => ?_, by rw [hgS]; exact hLb.base.size⟩
          have := (Array.getElem?_eq_some_iff.1 (hLb.at hy)).1
          omega)
        have hz60 := zero60
        clear hLb hXZ hAg hSg hf1 hb1 hm HB HBl
        have hk8 : k ≤ 8 := hk
        clear hk
        go_upto_region 25 with fail
        obtain ⟨w7, hw7⟩ : ∃ w7, w7 = wr.alloc (.cells (arr60 fun _ => false) 72) := ⟨_, rfl⟩
        rw [← hw7] at HSn
        rw [← hw7, ← hgS]
        clear hw7 hgS hz60
        go_wp2_with fail
        go_loopw [109] (fun t wx => ∃ (i : Nat) (sn : Nat → Bool), i ≤ m ∧ t = .int .i64 (i : Int) ∧ Hid (Sn w wx Z p d D (10 + 250 * k + 60 * i) 60 f B gS sn ∧ ∀ j, sn j = true → ∃ t, t < i ∧ j ∈ (B.getD t ([], [])).1)) (fun t _ => m - (intOf t).toNat)
        case atStart => exact ⟨0, _, Nat.zero_le _, rfl, HSn.out, fun j h => by cases h⟩
        case round =>
          obtain ⟨i, sn, hi, rfl, HI⟩ := hrel
          by_cases hlt2 : i < m
          · have hltz : (i : Int) < (m : Int) := by omega
            have hiB : i < B.length := by rw [← HM.out]; exact hlt2
            obtain ⟨ns, b, hx⟩ : ∃ ns b, B[i]'hiB = (ns, b) := ⟨_, _, rfl⟩
            have hmem : (ns, b) ∈ B := by rw [← hx]; exact List.getElem_mem hiB
            obtain ⟨zf, hzf⟩ : ∃ zf, zf = (K.ci ns).getD 0 0 := ⟨_, rfl⟩
            obtain ⟨b1, o1, ea, hc⟩ := HI.out.1.ag HAg.out (i := i) (by rw [HF1.out]; exact hlt2)
            rw [show (firsts B)[i]'(by rw [HF1.out]; exact hlt2) = zf by simp [firsts, hx, hzf]] at hc
            obtain ⟨b2, o2, eb, _⟩ := HI.out.1.sg HSg.out (i := i) (by rw [HB1.out]; exact hlt2)
            have HCs := hid (fun (wx : World) (Y : List (Nat × Obj)) (n : Nat) (h : Sn w wx Y p d D n 60 f B gS sn) (hY : ∀ x ∈ Z, x ∈ Y) => show wx.cell? ⟨b2, o2 + i, none⟩ = some (.string ⟨b.toArray⟩) by
              obtain ⟨a', c', e', hg'⟩ := HSg.out
              injection e' with e1 e2 e3
              obtain ⟨b3, o3, cs, fr, q1, q2, q3⟩ := hg' i (by rw [HB1.out]; exact hlt2)
              rw [← e1, eb] at q1
              injection q1 with q4
              injection q4 with q5 q6 q7
              subst q5
              subst q6
              rw [cellOf (h.at (hY _ q2)), q3]
              simp [bodies, hx, Str])
            obtain ⟨L, hL⟩ : ∃ L, L = b.length := ⟨_, rfl⟩
            obtain ⟨pg, hpg⟩ : ∃ pg, pg = K.pages L := ⟨_, rfl⟩
            obtain ⟨hnd, his, hnl, hb9⟩ := HPg.out.1 _ hmem
            have hL9 : L ≤ 4000 := by rw [hL]; exact hb9
            have hpg9 : pg ≤ 17 := by rw [hpg]; exact K.pages_le hL9
            have HNl := hid (show ns.length = pg by rw [hpg, hL]; exact hnl)
            have HIs := hid (And.intro hnd his)
            have HG := hid (show Calls Tryz.prog 25 #[Ptr sp, .int .i64 zf] wr (fun e w' => ∃ a cap Y, e = .returned (.tuple #[.slice a L cap, .int .i64 0]) ∧ Hid (Sn w w' Y p d D (10 + 250 * k + 60 * i + 20) 60 f B gS sn ∧ (∀ x ∈ Z, x ∈ Y) ∧ BgX Y (.slice a L cap) b)) by
              rw [hzf, hL]; exact sn_get HI.out.1 HMeZ.out (by omega) hmem)
            have HCh := hid (fun (wx : World) (Y : List (Nat × Obj)) (h : Sn w wx Y p d D (10 + 250 * k + 60 * i + 20) 60 f B gS sn) (hY : ∀ x ∈ Z, x ∈ Y) => show Calls Tryz.prog 26 #[Ptr sp, .int .i64 zf] wx (fun e w' => ∃ a cap Y', e = .returned (.tuple #[.slice a pg cap, .int .i64 0]) ∧ Hid (Sn w w' Y' p d D (10 + 250 * k + 60 * i + 20 + 20) 60 f B gS sn ∧ (∀ x ∈ Y, x ∈ Y') ∧ AgX Y' (.slice a pg cap) (K.ci ns))) by
              rw [hzf, hpg, hL]; exact sn_chain h (hY _ HMeZ.out) (by omega) hmem)
            have HPa := hid (fun w' => show Calls Tryz.prog 22 #[.int .i64 (L : Int)] w' (Tells (.int .i64 (pg : Int)) w') by rw [hpg]; exact xpages_any w' L (by omega))
            have HBL := hid hL.symm
            have HSeen := hid HI.out.2
            have HDj := hid (show ∀ t, t < i → ∀ j, j ∈ ns → j ∉ (B.getD t ([], [])).1 from fun t ht j hj hj2 => by
              have h1 := List.pairwise_iff_getElem.1 HPg.out.2 t i (by omega) hiB ht
              rw [hx] at h1
              rw [List.getD_eq_getElem?_getD, List.getElem?_eq_getElem (by omega)] at hj2
              exact h1 j hj2 hj)
            have HNB := hid (show (B.getD i ([], [])).1 = ns by rw [List.getD_eq_getElem?_getD, List.getElem?_eq_getElem hiB]; simp [hx])
            unfold Ptr at HG HCh
            subst ea
            subst eb
            clear hx hmem hzf hL hpg hnd his hnl hb9 hiB
            go_upto_region 30 with (first
              | (go_at_call 25; refine HG.out.mono ?_; rintro e w8 ⟨ga, gc, Y1, rfl, H8⟩)
              | (go_at_call 26; refine (HCh.out _ _ H8.out.1 H8.out.2.1).mono ?_; rintro e w9 ⟨la, lc, Y2, rfl, H9⟩))
            have hYZ : Hid (∀ x ∈ Z, x ∈ Y2) := fun x hx => H9.out.2.1 x (H8.out.2.1 x hx)
            have HAt := hid (H9.out.1.bg (BgX.more H8.out.2.2 H9.out.2.1))
            have hv1 : ∀ n, (convert 43 9 (.slice ga L gc)).run Tryz.prog (w9.drewN n) = .ok (.string ⟨b.toArray⟩) (w9.drewN n) := fun n => by
              have q := conv_at (w9.drewN n) ga b gc (HAt.out.adds (adds_drewN w9 n))
              rw [HBL.out] at q
              exact q
            have hcs := HCs.out _ _ _ H9.out.1 hYZ.out
            have y3 : ((⟨b.toArray⟩ : ByteArray).toList == (⟨b.toArray⟩ : ByteArray).toList) = true := by simp
            have hpp : ((pg : Int) != (pg : Int)) = false := by simp
            generalize (⟨b.toArray⟩ : ByteArray) = S1 at hv1 hcs y3
            go_quiet (first | (go_at_call 22; refine Calls.quiet_of_same (HPa.out _)))
            clear hv1 hcs y3 hpp
            go_wp2_with fail
            go_loopw [151] (fun t wx => ∃ (q : Nat) (sn2 : Nat → Bool), q ≤ pg ∧ t = .int .i64 (q : Int) ∧ Hid (Sn w wx Y2 p d D (10 + 250 * k + 60 * i + 40) 60 f B gS sn2 ∧ ∀ j, sn2 j = true → (∃ t, t < i ∧ j ∈ (B.getD t ([], [])).1) ∨ j ∈ ns.take q)) (fun t _ => pg - (intOf t).toNat)
            case atStart => exact ⟨0, sn, Nat.zero_le _, rfl, H9.out.1.adds (adds_drewN _ _), fun j h => .inl (HSeen.out j h)⟩
            case round =>
              obtain ⟨q, sn2, hq, rfl, HJ⟩ := hrel
              by_cases hltq : q < pg
              · have hltqz : (q : Int) < (pg : Int) := by omega
                have hqn : q < ns.length := by rw [HNl.out]; exact hltq
                obtain ⟨b3, o3, el, hcl⟩ := HJ.out.1.ag H9.out.2.2 (i := q) (by rw [K.ci_len]; exact hqn)
                rw [show (K.ci ns)[q]'(by rw [K.ci_len]; exact hqn) = ((ns[q] : Nat) : Int) by simp [K.ci]] at hcl
                obtain ⟨kk, hkk⟩ : ∃ kk, kk = ns[q] := ⟨_, rfl⟩
                rw [← hkk] at hcl
                have hk1 : 1 ≤ kk ∧ kk < 60 := by rw [hkk]; exact HIs.out.2 _ (List.getElem_mem hqn)
                have hsn : sn2 kk = false := by
                  cases hv : sn2 kk with
                  | false => rfl
                  | true =>
                    exfalso
                    rcases HJ.out.2 kk hv with ⟨t, ht, hm⟩ | hm
                    · exact HDj.out t ht kk (by rw [hkk]; exact List.getElem_mem hqn) hm
                    · obtain ⟨j, hj, e⟩ := List.getElem_of_mem hm
                      rw [List.getElem_take, hkk] at e
                      have := (List.getElem_inj HIs.out.1).1 e
                      rw [List.length_take] at hj
                      omega
                obtain ⟨hc1, hf1⟩ := HJ.out.1.cell (i := kk) hk1.2
                rw [hsn] at hc1
                have g1 : ¬ (kk : Int) < 1 := by omega
                have g2 : ¬ (60 : Int) ≤ (kk : Int) := by omega
                have HTk := hid (show ns.take (q + 1) = ns.take q ++ [kk] by rw [hkk, List.take_add_one, List.getElem?_eq_getElem hqn]; rfl)
                have hkk60 := hk1.2
                subst el
                clear hkk hsn hqn
                go_wp2_with fail
                go_roundw
                case rel =>
                  refine ⟨q + 1, _, by omega, by go_num, HJ.out.1.set hkk60, fun j hj => ?_⟩
                  rw [HTk.out]
                  by_cases e : j = kk
                  · exact .inr (by rw [e]; simp)
                  · rw [if_neg e] at hj
                    rcases HJ.out.2 j hj with h | h
                    · exact .inl h
                    · exact .inr (List.mem_append_left _ h)
                case measure => simp [intOf]; omega
              · obtain rfl : q = pg := by omega
                have hltqz : ¬ (q : Int) < (q : Int) := by omega
                go_wp2_with fail
                go_roundw
                case rel =>
                  refine ⟨i + 1, sn2, by omega, by go_num, (HJ.out.1.fewer hYZ.out).le (by omega), fun j hj => ?_⟩
                  rcases HJ.out.2 j hj with ⟨t, ht, h⟩ | h
                  · exact ⟨t, by omega, h⟩
                  · exact ⟨i, by omega, by rw [HNB.out]; exact List.mem_of_mem_take h⟩
                case measure => simp [intOf]; omega
          · obtain rfl : i = m := by omega
            have hltz : ¬ (i : Int) < (i : Int) := by omega
            have hfin := hid HI.out.1.1.base
            by_cases hm0 : i = 0
            · have hmz : ((i : Int) == 0) = true := by simp [hm0]
              go_wp2_with fail
              go_ret
              exact ⟨rfl, hfin.out⟩
            · have hmz : ((i : Int) == 0) = false := by simpa using hm0
              obtain ⟨kd, hkd, hkm⟩ : ∃ kd : Nat, kd < i ∧ wrap64 ((IntKind.u64.wrap drop).tmod (i : Int)) = (kd : Int) := by
                have h1 : IntKind.u64.wrap drop = drop % 18446744073709551616 := IntKind.wrap_u64 drop
                have h0 : 0 ≤ drop % 18446744073709551616 := Int.emod_nonneg _ (by decide)
                have h2 := Int.emod_lt_of_pos (drop % 18446744073709551616) (show (0 : Int) < (i : Int) by omega)
                have h3 := Int.emod_nonneg (drop % 18446744073709551616) (show (i : Int) ≠ 0 by omega)
                refine ⟨(drop % 18446744073709551616 % (i : Int)).toNat, by omega, ?_⟩
                rw [h1, Int.tmod_eq_emod_of_nonneg h0]
                generalize drop % 18446744073709551616 % (i : Int) = q at *
                unfold wrap64
                omega
              have hwm : IntKind.u64.wrap (i : Int) = (i : Int) := by rw [IntKind.wrap_u64]; omega
              have hiB : kd < B.length := by rw [← HM.out]; exact hkd
              obtain ⟨ns, b, hx⟩ : ∃ ns b, B[kd]'hiB = (ns, b) := ⟨_, _, rfl⟩
              have hmem : (ns, b) ∈ B := by rw [← hx]; exact List.getElem_mem hiB
              obtain ⟨zf, hzf⟩ : ∃ zf, zf = (K.ci ns).getD 0 0 := ⟨_, rfl⟩
              obtain ⟨b1, o1, ea, hc⟩ := HI.out.1.ag HAg.out (i := kd) (by rw [HF1.out]; exact hkd)
              rw [show (firsts B)[kd]'(by rw [HF1.out]; exact hkd) = zf by simp [firsts, hx, hzf]] at hc
              obtain ⟨b2, o2, eb, _⟩ := HI.out.1.sg HSg.out (i := kd) (by rw [HB1.out]; exact hkd)
              have HMe3 : Hid ((sp, SBox p) ∈ (gS, AC sn) :: Z) := List.mem_cons_of_mem _ HMeZ.out
              have HSg3 := hid (SgX.more HSg.out (fun x hx => List.mem_cons_of_mem (gS, AC sn) hx))
              have HAg3 := hid (AgX.moreB HAg.out (fun x hx => List.mem_cons_of_mem (gS, AC sn) hx))
              obtain ⟨Z3, hZ3⟩ : ∃ Z3, Z3 = (gS, AC sn) :: Z := ⟨_, rfl⟩
              have HI3 := hid (show Lb w wr Z3 p d D (10 + 250 * k + 60 * i) 60 f B by rw [hZ3]; exact HI.out.1.1)
              rw [← hZ3] at HMe3 HSg3 HAg3
              obtain ⟨L, hL⟩ : ∃ L, L = b.length := ⟨_, rfl⟩
              obtain ⟨pg, hpg⟩ : ∃ pg, pg = K.pages L := ⟨_, rfl⟩
              obtain ⟨hnd, his, hnl, hb9⟩ := HPg.out.1 _ hmem
              have hL9 : L ≤ 4000 := by rw [hL]; exact hb9
              have hpg9 : pg ≤ 17 := by rw [hpg]; exact K.pages_le hL9
              have HPa := hid (fun w' => show Calls Tryz.prog 22 #[.int .i64 (L : Int)] w' (Tells (.int .i64 (pg : Int)) w') by rw [hpg]; exact xpages_any w' L (by omega))
              have HF := hid (show Calls Tryz.prog 27 #[Ptr sp, .int .i64 zf] wr (fun e w' => e = .returned (.int .i64 0) ∧ Hid (∃ f', Ld w w' Z3 p d D (10 + 250 * k + 60 * i + 210) 60 f' B ∧ K.cntT 60 f' + pg = K.cntT 60 f)) by
                rw [hzf, hpg, hL]; exact lb_free2 HI3.out HMe3.out (by omega) hmem)
              have HCs := hid (fun (wx : World) (n : Nat) (f' : Nat → Bool) (h : Ld w wx Z3 p d D n 60 f' B) => show wx.cell? ⟨b2, o2 + kd, none⟩ = some (.string ⟨b.toArray⟩) by
                obtain ⟨b3, o3, q1, q2⟩ := h.sg HSg3.out (i := kd) (by rw [HB1.out]; exact hkd)
                rw [eb] at q1
                injection q1 with q4
                injection q4 with q5 q6 q7
                subst q5
                subst q6
                rw [q2]
                simp [bodies, hx, Str])
              have HBL := hid (show (b.length : Int) = (L : Int) by rw [hL])
              have hcn60' : cn ≤ 60 := hcn60
              unfold Ptr at HF
              clear hx hmem hzf hpg hnd his hnl hb9 hiB hZ3 hL
              subst ea
              subst eb
              go_upto_region 46 with (first
                | (go_at_call 27; refine HF.out.mono ?_; rintro e w10 ⟨rfl, H10⟩; obtain ⟨f2, H10b, hcnt⟩ := H10.out; obtain ⟨c2, hc2⟩ : ∃ c2, c2 = K.cntT 60 f2 := ⟨_, rfl⟩; have HC2 := hid hc2; have HCnt := hid (show c2 + pg = cn by rw [hc2, HCn.out]; exact hcnt); have HL10 := hid H10b; have HTk := hid (ld_taken H10b HMe3.out (by omega)); rw [← hc2] at HTk; clear hc2 hcnt H10b H10; unfold Ptr at HTk)
                | (go_at_call 29; refine HTk.out.mono ?_; rintro e w11 ⟨ta, tc, rfl, H11⟩))
              have hcs := HCs.out _ _ _ H11.out
              have hsub : (cn : Int) - (pg : Int) = (c2 : Int) := by have := HCnt.out; omega
              have hcc : ((c2 : Int) != (c2 : Int)) = false := by simp
              have hbl := HBL.out
              have hcn9 : (cn : Int) ≤ 60 := by omega
              go_upto_region 48 with (go_at_call 22; refine (HPa.out _).mono ?_; rintro e _ ⟨rfl, hw⟩; rw [hw]; clear hw)
              clear hcs hsub hcc hbl
              go_wp2_with fail
              go_loopw [209] (fun t wx => ∃ q : Nat, q ≤ i ∧ t = .int .i64 (q : Int) ∧ Hid (Ld w wx Z3 p d D (10 + 250 * k + 60 * i + 220 + 20 * q) 60 f2 B)) (fun t _ => i - (intOf t).toNat)
              case atStart => exact ⟨0, Nat.zero_le _, rfl, H11.out⟩
              case round =>
                obtain ⟨q, hq, rfl, HJ⟩ := hrel
                by_cases hltq : q < i
                · have hltqz : (q : Int) < (i : Int) := by omega
                  have hqB : q < B.length := by rw [← HM.out]; exact hltq
                  obtain ⟨ns', b', hx⟩ : ∃ ns b, B[q]'hqB = (ns, b) := ⟨_, _, rfl⟩
                  have hmem : (ns', b') ∈ B := by rw [← hx]; exact List.getElem_mem hqB
                  obtain ⟨zq, hzq⟩ : ∃ zq, zq = (K.ci ns').getD 0 0 := ⟨_, rfl⟩
                  obtain ⟨b5, o5, e5, hcq⟩ := HJ.out.ag HAg3.out (i := q) (by rw [HF1.out]; exact hltq)
                  rw [show (firsts B)[q]'(by rw [HF1.out]; exact hltq) = zq by simp [firsts, hx, hzq]] at hcq
                  obtain ⟨rfl, rfl⟩ : b5 = b1 ∧ o5 = o1 := by
                    injection e5 with e6
                    injection e6 with e7 e8 e9
                    exact ⟨e7.symm, e8.symm⟩
                  obtain ⟨L', hL'⟩ : ∃ L', L' = b'.length := ⟨_, rfl⟩
                  have HBL2 := hid hL'.symm
                  have HGt := hid (show Calls Tryz.prog 25 #[Ptr sp, .int .i64 zq] wr (fun e w' => ∃ a cap, e = .returned (.tuple #[.slice a L' cap, .int .i64 0]) ∧ Hid (Ld w w' Z3 p d D (10 + 250 * k + 60 * i + 220 + 20 * q + 20) 60 f2 B ∧ At w' a b')) by
                    rw [hzq, hL']; exact ld_get HJ.out HMe3.out (by omega) hmem)
                  have HCs2 := hid (fun (wx : World) (n : Nat) (h : Ld w wx Z3 p d D n 60 f2 B) => show wx.cell? ⟨b2, o2 + q, none⟩ = some (.string ⟨b'.toArray⟩) by
                    obtain ⟨b3, o3, q1, q2⟩ := h.sg HSg3.out (i := q) (by rw [HB1.out]; exact hltq)
                    injection q1 with q4
                    injection q4 with q5 q6 q7
                    subst q5
                    subst q6
                    rw [q2]
                    simp [bodies, hx, Str])
                  unfold Ptr at HGt
                  clear hx hmem hzq hL' hqB e5
                  go_upto_region 52 with (go_at_call 25; refine HGt.out.mono ?_; rintro e w12 ⟨ga, gc, rfl, H12⟩)
                  have hv1 : ∀ n, (convert 43 9 (.slice ga L' gc)).run Tryz.prog (w12.drewN n) = .ok (.string ⟨b'.toArray⟩) (w12.drewN n) := fun n => by
                    have q := conv_at (w12.drewN n) ga b' gc (H12.out.2.adds (adds_drewN w12 n))
                    rw [HBL2.out] at q
                    exact q
                  have hcs := HCs2.out _ _ H12.out.1
                  have y3 : ((⟨b'.toArray⟩ : ByteArray).toList == (⟨b'.toArray⟩ : ByteArray).toList) = true := by simp
                  generalize (⟨b'.toArray⟩ : ByteArray) = S1 at hv1 hcs y3
                  by_cases hqk : q = kd
                  · have hne : ((q : Int) != (kd : Int)) = false := by simp [hqk]
                    clear hqk
                    go_quiet (fail)
                    go_wp2
                    go_roundw
                    case rel =>
                      exact ⟨q + 1, by omega, by go_num, H12.out.1.adds (adds_drewN _ _)⟩
                    case measure => simp [intOf]; omega
                  · have hne : ((q : Int) != (kd : Int)) = true := by simp; omega
                    clear hqk
                    go_quiet (fail)
                    go_wp2
                    go_roundw
                    case rel =>
                      exact ⟨q + 1, by omega, by go_num, H12.out.1.adds (adds_drewN _ _)⟩
                    case measure => simp [intOf]; omega
                · obtain rfl : q = i := by omega
                  have hltqz : ¬ (q : Int) < (q : Int) := by omega
                  have hfin2 := hid HJ.out.base
                  go_wp2_with fail
                  go_ret
                  exact ⟨rfl, hfin2.out⟩
end Go.Proofs.YtjlennpoaefllaaGreatDoor
