/- WalLasts. -/
import Derived.Test.YtllkplanjfnnmaaDoorQ39
import Derived.Deep.CutBlock
import Derived.Deep.DeepCutAuto
namespace Go.Proofs.YtllkplanjfnnmaaDoor
open Go.RowKit
set_option maxRecDepth 100000 in
set_option maxHeartbeats 3000000 in
theorem lasts8 (a : Option Addr) (n cap : Nat) (kp : Int) (ka : Option Addr) (kc : Nat) (ks : List Bool) (tn at_ : Int) (w : World) (hT : Tab w) (hI : ActsAt w a n) (hK : KeptAt w ka ks) (hkn : ks.length ≤ 9223372036854775807) : Calls Tryd.prog 4 #[.slice a n cap, .int .i64 kp, .agg #[.slice ka ks.length kc, .int .i64 tn, .int .i64 at_]] w (Adding (.bool true) w) := by
  have HB := hid (fun w' (hA : Adds w w') => show Calls Tryd.prog 17 #[.int .i64 9] w' (PBeg w' 9) from began_any 9 (by decide) (by decide) w' (hT.adds hA))
  have HW := hid (fun w' (hA : Adds w w') => works8 w' (hT.adds hA))
  have HI := hid hI
  have HK := hid (And.intro hK hkn)
  have HT := hid hT
  obtain ⟨nn, hnn⟩ : ∃ nn, nn = cutM kp := ⟨_, rfl⟩
  have hn40 : nn < 40 := by rw [hnn]; unfold cutM; omega
  have hwr := cut_wrap40 kp
  rw [← hnn] at hwr
  clear hT hI hK hkn hnn
  go_enter Tryd.func4, Tryd.ntmps4
  go_upto_region 1 with fail
  obtain ⟨wB, hwB⟩ : ∃ wB, wB = w.alloc (Obj.cells #[Value.slice ka ks.length kc, Value.int IntKind.i64 tn, Value.int IntKind.i64 at_] 48) := ⟨_, rfl⟩
  have HAB := hid (show Adds w wB by rw [hwB]; exact (Touch.refl _ w).alloc _)
  have HXB := hid (show wB.heap[w.heap.size]? = some (Obj.cells #[Value.slice ka ks.length kc, Value.int IntKind.i64 tn, Value.int IntKind.i64 at_] 48) by rw [hwB]; exact heap_alloc_new w _)
  have HTB := hid (HT.out.adds HAB.out)
  rw [← hwB]
  clear hwB
  go_upto_block 0 with (first
    | (go_at_call 17; refine (HB.out wB HAB.out).mono ?_; rintro e w1 ⟨l, p, rfl, H1⟩; obtain ⟨OL1, OD1, h1⟩ := H1.out; have HW1 := hid (show Wl wB w1 OL1 OD1 l p ⟨1, 9, 2, false, [], []⟩ (dSt.new 10) from h1); clear h1 H1)
    | (go_at_call 16; refine (HW.out w1 (HAB.out.trans HW1.out.adds)).mono ?_; rintro e w2 ⟨rfl, hA2⟩; have HW2 := hid (HW1.out.add hA2); clear hA2)
    | (go_at_call 18; refine (cut9 (k := 0) HW2.out (dnew_ok 10 0 (by decide)) (by first | exact hwr | rfl | omega)).mono ?_; rintro e w3 ⟨rfl, H3⟩; obtain ⟨OL3, OD3, h3, _, _⟩ := H3.out; have HW3 := hid h3; clear h3 H3))
  have HL3 := hid (show Lo wB w3 OL3 OD3 l p ⟨1, 9, 2, false, [], []⟩ ((dSt.new 10).cut (nn : Int)) 0 (.slice none 0 0) (.slice none 0 0) [] [] from
    ⟨HW3.out, run_new.cut _, ⟨Nat.zero_le _, Int.le_refl _, Int.le_refl _, by show -1 ≤ (nn : Int); omega, by show (nn : Int) ≤ _; omega, by show (0 : Int) < 10; decide⟩, DG.nil _ _, rfl, rfl, Nat.le_refl _, Nat.le_refl _, fun g hg => (by cases hg)⟩)
  clear HW1 HW2 HW3 HB HW
  go_cut [9, 10, 11, 12, 13, 14] (fun vd vg _ _ _ _ wx => ∃ (t : List Pl) (hs : List Part), Hid (∃ G R D OL OD, Out wB wx OL OD l p G R D vd vg t hs))
  case first =>
    go_wp2_with fail
    go_loopw [9, 10, 11] (fun vd vg i wr => ∃ (k : Nat) (t : List Pl) (hs : List Part), k ≤ n ∧ k ≤ 30 ∧ i = .int .i64 (k : Int) ∧ Hid (∃ L D OL OD, Lo wB wr OL OD l p L D k vd vg t hs)) (fun _ _ i _ => 30 - (intOf i).toNat)
    case atStart => exact ⟨0, [], [], Nat.zero_le _, Nat.zero_le _, rfl, _, _, _, _, HL3.out⟩
    case round =>
      obtain ⟨k, t, hs, hkn, hk30, rfl, HR⟩ := hrel
      by_cases hlt : k < n ∧ k < 30
      · obtain ⟨b, o, k0, n0, p0, c, ja, jc, js, jt, ja2, rfl, hra, _, _, _⟩ := HI.out.2 k hlt.1
        obtain ⟨L, D, OL, OD, hR⟩ := HR.out
        have HRR := hid hR
        have h1 := hlt.1
        have h2 := hlt.2
        have hn64 := HI.out.1
        have d1 : decide (k < n) = true := by simpa using h1
        have d2 : decide ((k : Int) < 30) = true := by simp; omega
        have hrr : Hid (wr.rangeAt b (o + k * 7) (actC k0 n0 p0 c ja (List.length js) jc jt ja2)) := fun j v hv => below_adds (HAB.out.trans hR.wl.adds) (hra j v hv)
        have hi53 : Hid ((Tryd.prog.info? 53).map (·.size) = some (actC k0 n0 p0 c ja (List.length js) jc jt ja2).length) := infoAct
        have hset : (storeCells ⟨wr.heap.size, 0, none⟩ (actC k0 n0 p0 c ja (List.length js) jc jt ja2) 0).run Tryd.prog (wr.alloc (.cells #[Value.int .i64 0, .int .i64 0, .int .i64 0, .int .u8 0, .slice none 0 0, .int .i64 0, .int .i64 0] 53)) = .ok () (wr.alloc (.cells (actC k0 n0 p0 c ja (List.length js) jc jt ja2).toArray 53)) := run_storeCells_new wr 53 _ (actC k0 n0 p0 c ja (List.length js) jc jt ja2).toArray infoAct rfl (all_oneCell_toArray (one_actC k0 n0 p0 c ja (List.length js) jc jt ja2))
        have hzv := zeroAct
        clear hra hR HR hlt
        go_upto_region 9 with fail
        go_cut [12] (fun t12 w' => t12 = .pointer (some ⟨wr.heap.size, 0, none⟩) ∧ w' = wr.alloc (.cells (actC k0 n0 p0 c ja (List.length js) jc jt ja2).toArray 53))
        case first =>
          go_wp2_with (refine wpList_load_mid rfl 53 _ rfl b (o + k * 7) rfl (actC k0 n0 p0 c ja (List.length js) jc jt ja2) _ hrr.out Tryd.underlying53 rfl hi53.out ?_)
          go_meet
          case rel => exact ⟨rfl, rfl⟩
        case rest =>
          obtain ⟨hu12, hwc⟩ := hcut
          subst hu12
          have HA5 := hid (show Adds wr wc by rw [hwc]; exact (Touch.refl _ wr).alloc _)
          have hh5 : wc.heap[wr.heap.size]? = some (.cells (actC k0 n0 p0 c ja (List.length js) jc jt ja2).toArray 53) := by rw [hwc]; exact heap_alloc_new wr _
          have c0 : wc.cell? ⟨wr.heap.size, 0, none⟩ = some (.int .i64 k0) := cellOf hh5 0
          have c1 : wc.cell? ⟨wr.heap.size, 1, none⟩ = some (.int .i64 n0) := cellOf hh5 1
          have c3' : wc.cell? ⟨wr.heap.size, 3, none⟩ = some (.int .u8 (c.toNat : Int)) := cellOf hh5 3
          clear hh5 hwc hset hzv hrr hi53
          by_cases hk1 : k0 = 1
          · subst hk1
            clear c1 c3'
            obtain ⟨ga, gc, hvg⟩ : ∃ ga gc, u10 = .slice ga hs.length gc := by obtain ⟨_, _, ga, gc, _, e, _⟩ := HRR.out.dg.pl; exact ⟨ga, gc, e⟩
            subst hvg
            obtain ⟨m, hm⟩ : ∃ m, m = hs.length := ⟨_, rfl⟩
            have HM := hid hm
            have HRC := hid (HRR.out.add HA5.out)
            have ht30 : t.length ≤ 30 := by have := HRR.out.nt; omega
            rw [← hm]
            rcases run_com HRR.out.run HRR.out.dok.left0 with ⟨hR, e1, e2, e3⟩ | ⟨hR, e1, e2, hrun⟩ | ⟨hR, e1, hcut⟩
            · have HE := hid (And.intro e1 (And.intro e2 e3))
              obtain rfl : m = 0 := by rw [hm, ← List.length_map (f := (·.bs)), HRR.out.now, hR]; rfl
              have HR0 := hid hR
              clear hm e1 e2 e3 hR
              go_wp2_with (go_at_call 10; refine (lo_com' HRC.out (by omega) HTB.out HE.out).mono ?_; rintro e w6 ⟨rfl, H6⟩; obtain ⟨OL6, OD6, h6, t6, n6⟩ := H6.out; have HW6 := hid h6; have HG6 := hid (show DG (Nw wB OL6 OD6) w6 u9 (.slice ga hs.length gc) t hs by exact HRC.out.dg.call t6 n6); clear h6 t6 n6 H6)
              go_roundw
              case rel => exact ⟨k + 1, t, [], by omega, by omega, by go_num, L, D, OL6, OD6, ⟨HW6.out, HRR.out.run, HRR.out.dok.mono (by omega), HG6.out.drop, HR0.out.symm, HRR.out.was, Nat.zero_le _, by have := HRR.out.nt; omega, HRR.out.nl⟩⟩
              case measure => simp [intOf]; omega
            · have HE := hid (And.intro e1 (And.intro e2 hrun))
              have hm0 : 0 < m := by rw [hm, ← List.length_map (f := (·.bs)), HRR.out.now]; exact List.length_pos_iff.2 hR
              have HR0 := hid hR
              clear hm e1 e2 hrun hR
              go_wp2_with (first
                | (go_at_call 10; refine (lo_com' HRC.out (by omega) HTB.out ⟨HE.out.1, rfl, rfl⟩).mono ?_; rintro e w6 ⟨rfl, H6⟩; obtain ⟨OL6, OD6, h6, t6, n6⟩ := H6.out; have HW6 := hid h6; have HG6 := hid (show DG (Nw wB OL6 OD6) w6 u9 (.slice ga m gc) t hs by rw [HM.out]; exact HRC.out.dg.call t6 n6); clear h6 t6 n6 H6)
                | (at_builtin; refine append_bb1 rfl _ _ rfl u9 t.length (t.map GV) rfl (HG6.out.adds ((Touch.refl _ w6).alloc _)).rows w6.heap.size (.slice ga m gc) rfl (cellOf (heap_alloc_new w6 _) 0) rfl (by omega) ?_; intro v5 w5 G5; have HG5 := hid (dg_done HW6.out HG6.out HM.out G5); clear G5))
              go_roundw
              case rel => exact ⟨k + 1, t ++ [⟨ga, gc, hs⟩], [], by omega, by omega, by go_num, comL L D, comD L D, OL6, OD6, lo_done HRR.out hk30 HR0.out HE.out.1 HE.out.2.1 HE.out.2.2 HG5.out⟩
              case measure => simp [intOf]; omega
            · have HE := hid (And.intro e1 hcut)
              clear hm e1 hcut hR
              go_wp2_with (go_at_call 10; refine (lo_com' HRC.out (by omega) HTB.out ⟨HE.out.1, rfl, rfl⟩).mono ?_; rintro e w6 ⟨rfl, H6⟩; obtain ⟨OL6, OD6, h6, t6, n6⟩ := H6.out; have HW6 := hid h6; have HG6 := hid (show DG (Nw wB OL6 OD6) w6 u9 (.slice ga m gc) t hs by rw [HM.out]; exact HRC.out.dg.call t6 n6); clear h6 t6 n6 H6)
              go_meet
              case rel => exact ⟨t, hs, L.G, L.R, comD L D, OL6, OD6, by have q := HG6.out; rw [HM.out] at q ⊢; exact out_cut HRR.out hk30 HE.out.2 HW6.out q⟩
          · have hk2 : (k0 == 1) = false := by simpa using hk1
            have hk3 : (k0 != 1) = true := by simpa using hk1
            obtain ⟨bs, hbs⟩ : ∃ bs, bs = bodyB c (bodyN n0) := ⟨_, rfl⟩
            have HBd := hid (show Calls Tryd.prog 19 #[.int .i64 n0, .int .u8 (c.toNat : Int)] wc (PBody8 wc bs) by have q := body8_any n0 c wc; rw [← hbs] at q; exact q)
            have hbl : bs.length < 700 := by rw [hbs]; exact len_bodyN n0 _
            obtain ⟨bl, hbl2⟩ : ∃ bl, bl = bs.length := ⟨_, rfl⟩
            have HBL := hid (And.intro hbl hbl2)
            rw [← hbl2] at hbl
            have HV := hid (HRR.out.nvd HA5.out)
            have hh30 : hs.length ≤ 30 := by have := HRR.out.nh; omega
            clear hbs hbl2
            rcases run_app HRR.out.run HBL.out.1 with hae | hae
            · have HAE := hid hae
              clear hae
              go_wp2_with (first
                | (go_at_call 19; refine HBd.out.mono ?_; rintro e w3 ⟨rfl, H3⟩; rw [← HBL.out.2]; have HX3 := hid (part_new H3.out); have HW3 := hid ((HRR.out.wl.add HA5.out).add H3.out.2); have HG3 := hid ((HRR.out.dg.adds HA5.out).adds H3.out.2))
                | (go_at_call 9; refine (lo_app HW3.out HRR.out.run _ bs bl bl HBL.out.2 HX3.out.at_.at HAE.out).mono ?_; rintro e w7 ⟨rfl, H7⟩; obtain ⟨OL7, OD7, h7, t7, n7⟩ := H7.out; have HW7 := hid h7; have HG7 := hid (HG3.out.call t7 n7); have HX7 := hid (HX3.out.touch t7 (fun k q c => by subst q; have := (HRR.out.wl.add HA5.out).lt _ c; omega)); have HB7 := hid (blk_new (HRR.out.wl.add HA5.out) H3.out.2 n7 (heap_lt H3.out.1)); clear h7 t7 n7 H7)
                | (at_builtin; refine append_b1 rfl _ _ rfl u10 hs.length (hs.map PV) rfl (HG7.out.grp.adds ((Touch.refl _ w7).alloc _)).rows w7.heap.size (.slice (some ⟨wc.heap.size, 0, none⟩) bl bl) rfl (cellOf (heap_alloc_new w7 _) 0) rfl (by omega) ?_; intro v5 w5 G5; have HG5 := hid (dg_more HW7.out HG7.out HX7.out HB7.out HV.out HBL.out.2 G5); clear G5))
              go_roundw
              case rel => exact ⟨k + 1, t, hs ++ [⟨some ⟨wc.heap.size, 0, none⟩, bs, bs.length⟩], by omega, by omega, by go_num, _, D, OL7, OD7, ⟨HG5.out.1, by have q := HRR.out.run.app bs; rw [HAE.out.2] at q; exact q, HRR.out.dok.mono (by omega), HG5.out.2, by rw [List.map_append, HRR.out.now]; rfl, HRR.out.was, by have := HRR.out.nh; simp; omega, by have := HRR.out.nt; omega, HRR.out.nl⟩⟩
              case measure => simp [intOf]; omega
            · have HAE := hid hae
              clear hae
              go_wp2_with (first
                | (go_at_call 19; refine HBd.out.mono ?_; rintro e w3 ⟨rfl, H3⟩; rw [← HBL.out.2]; have HX3 := hid (part_new H3.out); have HW3 := hid ((HRR.out.wl.add HA5.out).add H3.out.2); have HG3 := hid ((HRR.out.dg.adds HA5.out).adds H3.out.2))
                | (go_at_call 9; refine (lo_app HW3.out HRR.out.run _ bs bl bl HBL.out.2 HX3.out.at_.at HAE.out).mono ?_; rintro e w7 ⟨rfl, H7⟩; obtain ⟨OL7, OD7, h7, t7, n7⟩ := H7.out; have HW7 := hid h7; have HG7 := hid (HG3.out.call t7 n7); have HX7 := hid (HX3.out.touch t7 (fun k q c => by subst q; have := (HRR.out.wl.add HA5.out).lt _ c; omega)); have HB7 := hid (blk_new (HRR.out.wl.add HA5.out) H3.out.2 n7 (heap_lt H3.out.1)); clear h7 t7 n7 H7))
              go_roundw
              case rel => exact ⟨k + 1, t, hs, by omega, by omega, by go_num, L, D, OL7, OD7, ⟨HW7.out, HRR.out.run, HRR.out.dok.mono (by omega), HG7.out, HRR.out.now, HRR.out.was, by have := HRR.out.nh; omega, by have := HRR.out.nt; omega, HRR.out.nl⟩⟩
              case measure => simp [intOf]; omega
      · obtain ⟨L, D, OL, OD, hR⟩ := HR.out
        have HE := hid (hR.out (by omega))
        by_cases hkn2 : k < n
        · have d1 : decide (k < n) = true := by simpa using hkn2
          have d2 : decide ((k : Int) < 30) = false := by simp; omega
          have d3 : ¬ k < 30 := by omega
          go_wp2_with fail
          go_meet
          case rel => exact ⟨t, hs, _, _, _, _, _, HE.out⟩
        · have d1 : decide (k < n) = false := by simpa using hkn2
          go_wp2_with fail
          go_meet
          case rel => exact ⟨t, hs, _, _, _, _, _, HE.out⟩
  case rest =>
    obtain ⟨t, hs, H6⟩ := hcut
    obtain ⟨G, R, D, OL, OD, hO⟩ := H6.out
    obtain ⟨L, hWl⟩ := hO.wl
    obtain ⟨da, dc, ga, gc, hvd, hvg, hdn, hdq, hdg, hgq⟩ := hO.dg.pl
    subst hvd
    subst hvg
    have HO := hid hO
    have HWl := hid hWl
    have HDQ := hid (And.intro hdn (And.intro hdq (And.intro hdg hgq)))
    obtain ⟨m, hm⟩ : ∃ m, m = hs.length := ⟨_, rfl⟩
    obtain ⟨dn, hdn2⟩ : ∃ dn, dn = t.length := ⟨_, rfl⟩
    have HM := hid (And.intro hm hdn2)
    rw [← hm, ← hdn2]
    have hr48 : Hid (wc.rangeAt w.heap.size 0 [Value.slice ka ks.length kc, Value.int IntKind.i64 tn, Value.int IntKind.i64 at_]) := fun j v hv => below_adds HWl.out.adds (by rw [cellOf HXB.out]; simpa using hv)
    have hi48 : Hid ((Tryd.prog.info? 48).map (·.size) = some ([Value.slice ka ks.length kc, Value.int IntKind.i64 tn, Value.int IntKind.i64 at_]).length) := show _ = some 3 by kernel_rfl
    have HKc := hid (show KeptAt wc ka ks from fun j hj => by obtain ⟨b, o, e, h⟩ := HK.out.1 j hj; exact ⟨b, o, e, below_adds (HAB.out.trans HWl.out.adds) h⟩)
    clear hO hWl hdn hdq hdg hgq hm hdn2 H6 hwr hn40 HI HL3
    by_cases hbad : (0 ≤ tn ∧ tn < D.W.length) ∧ (at_ < 0 ∨ 256 < at_)
    · have HBad := hid hbad
      clear hbad
      go_wp2_with (first
        | (refine wpList_load_mid rfl 48 _ rfl w.heap.size 0 rfl [Value.slice ka ks.length kc, Value.int IntKind.i64 tn, Value.int IntKind.i64 at_] _ hr48.out Tryd.underlying48 rfl hi48.out ?_)
        | (go_at_call 20; refine (loseb HWl.out HO.out.waits HO.out.size ka ks.length kc tn at_ HBad.out.1 HBad.out.2).mono ?_; rintro e w3 ⟨rfl, hA3⟩; have HA3 := hid hA3; clear hA3))
      go_ret
      exact ⟨rfl, (HAB.out.trans HWl.out.adds).trans HA3.out⟩
    · have hat : 0 ≤ tn ∧ tn < D.W.length → 0 ≤ at_ ∧ at_ ≤ 256 := fun c => by
        by_cases q : at_ < 0 ∨ 256 < at_
        · exact absurd ⟨c, q⟩ hbad
        · omega
      have hE := HO.out.ends ks tn at_ hat
      have HE3 := hid (show (⟨1, 9, 3, true, (W.find 3 (secOf (D.lost ks tn at_) 1) 9 0 [] [] 0).1, []⟩ : LS).G = [] from hE.three)
      rcases hE.two with h2 | ⟨h2, hrec⟩
      · have HGB := hid (show (∀ g ∈ (⟨1, 9, 2, true, (W.find 2 (secOf (D.lost ks tn at_) 1) 9 0 [] [] 0).1, []⟩ : LS).G, g.length ≤ 1000000) ∧ (⟨1, 9, 2, true, (W.find 2 (secOf (D.lost ks tn at_) 1) 9 0 [] [] 0).1, []⟩ : LS).G.length ≤ 10000 by
          have q := used_len HO.out.used
          show (∀ g ∈ (W.find 2 _ 9 0 [] [] 0).1, _) ∧ (W.find 2 _ 9 0 [] [] 0).1.length ≤ _
          rw [h2]
          exact ⟨fun g hg => by have := q.2 g hg; omega, by omega⟩)
        have H2 := hid h2
        clear hbad hE h2
        go_wp2_with (first
        | (refine wpList_load_mid rfl 48 _ rfl w.heap.size 0 rfl [Value.slice ka ks.length kc, Value.int IntKind.i64 tn, Value.int IntKind.i64 at_] _ hr48.out Tryd.underlying48 rfl hi48.out ?_)
        | (go_at_call 20; refine (wl_lose HWl.out (by have := HO.out.waits; omega) (by rw [HO.out.size]; decide) ka kc ks tn at_ HKc.out HK.out.2 hat).mono ?_; rintro e w3 ⟨pq, rfl, H3⟩; obtain ⟨OD9, hd3, hO3, hA3⟩ := H3.out; have HDq := hid hd3; have HOq := hid hO3; have HA3 := hid hA3; clear hd3 hO3 hA3 H3)
        | (go_at_call 7; refine (show Calls Tryd.prog 7 #[Ptr pq, .int .i64 1, .int .i64 9, .int .i64 3] w5 (PLog w5 pq ⟨1, 9, 3, true, (W.find 3 (secOf (D.lost ks tn at_) 1) 9 0 [] [] 0).1, []⟩) from lo_open (HDq.out.adds HA5.out.2) (fun k q => Nat.lt_of_lt_of_le (HOq.out k q).2 HA5.out.2.size) (HT.out.adds HA5.out.1) rfl HO.out.size rfl rfl 3 (by decide) (by decide)).mono ?_; rintro e w6 ⟨lp, rfl, H6⟩; have HLp := hid H6.out.1; have HL6 := hid (HL5.out.adds H6.out.2); have HA6 := hid (And.intro (HA5.out.1.trans H6.out.2) (HC5.out.trans H6.out.2)); clear H6)
        | (go_at_call 7; refine (show Calls Tryd.prog 7 #[Ptr pq, .int .i64 1, .int .i64 9, .int .i64 2] w3 (PLog w3 pq ⟨1, 9, 2, true, (W.find 2 (secOf (D.lost ks tn at_) 1) 9 0 [] [] 0).1, []⟩) from lo_open HDq.out (fun k q => (HOq.out k q).2) (HT.out.adds ((HAB.out.trans HWl.out.adds).trans HA3.out)) rfl HO.out.size rfl rfl 2 (by decide) (by decide)).mono ?_; rintro e w5 ⟨lo, rfl, H5⟩; have HL5 := hid H5.out.1; have HA5 := hid (And.intro (((HAB.out.trans HWl.out.adds).trans HA3.out).trans H5.out.2) H5.out.2); have HC5 := hid (HA3.out.trans H5.out.2); clear H5)
        | (go_at_call 12; refine (gs_any HL7.out HGB.out.1 HGB.out.2).mono ?_; rintro e w8 ⟨oa, oc, on, ot, rfl, HO8⟩; have HA8 := hid (And.intro (HA7.out.1.trans HO8.out.2.2.2.2) (HA7.out.2.trans HO8.out.2.2.2.2)))
        | (go_at_call 12; refine (none9 HLp.out HE3.out).mono ?_; rintro e w7 ⟨pa, pc, rfl, hA7⟩; have HL7 := hid (HL6.out.adds hA7); have HA7 := hid (And.intro (HA6.out.1.trans hA7) (HA6.out.2.trans hA7)); clear hA7)
        | (go_at_call 21; refine (same_way HO8.out H2.out HM.out.2 (HDQ.out.2.1.adds HA8.out.2) (fun g hg => (HDQ.out.2.2.1 g hg).adds HA8.out.2) HO.out.was HO.out.nt HO.out.nl).mono ?_; rintro e w9 ⟨rfl, hA9⟩; have HA9 := hid (HA8.out.1.trans hA9); clear hA9))
        go_ret
        exact ⟨rfl, HA9.out⟩
      · have HGB := hid (show (∀ g ∈ (⟨1, 9, 2, true, (W.find 2 (secOf (D.lost ks tn at_) 1) 9 0 [] [] 0).1, []⟩ : LS).G, g.length ≤ 1000000) ∧ (⟨1, 9, 2, true, (W.find 2 (secOf (D.lost ks tn at_) 1) 9 0 [] [] 0).1, []⟩ : LS).G.length ≤ 10000 by
          have q := used_len HO.out.used
          have q2 := HO.out.rlen
          show (∀ g ∈ (W.find 2 _ 9 0 [] [] 0).1, _) ∧ (W.find 2 _ 9 0 [] [] 0).1.length ≤ _
          rw [h2]
          refine ⟨fun g hg => ?_, by rw [List.length_append]; simp; omega⟩
          rcases List.mem_append.1 hg with c | c
          · have := q.2 g c; omega
          · rw [List.mem_singleton.1 c]; omega)
        have H2 := hid (And.intro h2 hrec)
        have hdn30 : dn ≤ 30 := by rw [HM.out.2]; exact HO.out.nt
        clear hbad hE h2 hrec
        go_wp2_with (first
        | (refine wpList_load_mid rfl 48 _ rfl w.heap.size 0 rfl [Value.slice ka ks.length kc, Value.int IntKind.i64 tn, Value.int IntKind.i64 at_] _ hr48.out Tryd.underlying48 rfl hi48.out ?_)
        | (go_at_call 20; refine (wl_lose HWl.out (by have := HO.out.waits; omega) (by rw [HO.out.size]; decide) ka kc ks tn at_ HKc.out HK.out.2 hat).mono ?_; rintro e w3 ⟨pq, rfl, H3⟩; obtain ⟨OD9, hd3, hO3, hA3⟩ := H3.out; have HDq := hid hd3; have HOq := hid hO3; have HA3 := hid hA3; clear hd3 hO3 hA3 H3)
        | (go_at_call 7; refine (show Calls Tryd.prog 7 #[Ptr pq, .int .i64 1, .int .i64 9, .int .i64 3] w5 (PLog w5 pq ⟨1, 9, 3, true, (W.find 3 (secOf (D.lost ks tn at_) 1) 9 0 [] [] 0).1, []⟩) from lo_open (HDq.out.adds HA5.out.2) (fun k q => Nat.lt_of_lt_of_le (HOq.out k q).2 HA5.out.2.size) (HT.out.adds HA5.out.1) rfl HO.out.size rfl rfl 3 (by decide) (by decide)).mono ?_; rintro e w6 ⟨lp, rfl, H6⟩; have HLp := hid H6.out.1; have HL6 := hid (HL5.out.adds H6.out.2); have HA6 := hid (And.intro (HA5.out.1.trans H6.out.2) (HC5.out.trans H6.out.2)); clear H6)
        | (go_at_call 7; refine (show Calls Tryd.prog 7 #[Ptr pq, .int .i64 1, .int .i64 9, .int .i64 2] w3 (PLog w3 pq ⟨1, 9, 2, true, (W.find 2 (secOf (D.lost ks tn at_) 1) 9 0 [] [] 0).1, []⟩) from lo_open HDq.out (fun k q => (HOq.out k q).2) (HT.out.adds ((HAB.out.trans HWl.out.adds).trans HA3.out)) rfl HO.out.size rfl rfl 2 (by decide) (by decide)).mono ?_; rintro e w5 ⟨lo, rfl, H5⟩; have HL5 := hid H5.out.1; have HA5 := hid (And.intro (((HAB.out.trans HWl.out.adds).trans HA3.out).trans H5.out.2) H5.out.2); have HC5 := hid (HA3.out.trans H5.out.2); clear H5)
        | (go_at_call 12; refine (gs_any HL7.out HGB.out.1 HGB.out.2).mono ?_; rintro e w8 ⟨oa, oc, on, ot, rfl, HO8⟩; have HA8 := hid (And.intro (HA7.out.1.trans HO8.out.2.2.2.2) (HA7.out.2.trans HO8.out.2.2.2.2)))
        | (go_at_call 12; refine (none9 HLp.out HE3.out).mono ?_; rintro e w7 ⟨pa, pc, rfl, hA7⟩; have HL7 := hid (HL6.out.adds hA7); have HA7 := hid (And.intro (HA6.out.1.trans hA7) (HA6.out.2.trans hA7)); clear hA7)
        | (go_at_call 21; refine (same_fin (Q3 := Nw wB OL OD) (ga := ga) (gc := gc) HO8.out.1 (HO8.out.2.1.adds HA11.out) (fun g hg => (HO8.out.2.2.1 g hg).adds HA11.out) HS8.out.1 HS8.out.2 HM.out.2 HM.out.1 HO.out.nt HQ11.out (fun g hg => (HDQ.out.2.2.1 g hg).adds (HA8.out.2.trans HA11.out)) ((HDQ.out.2.2.2.adds (HA8.out.2.trans HA11.out)).mono (fun _ _ q => q.1))).mono ?_; rintro e w12 ⟨rfl, hA12⟩; have HA12 := hid ((HA8.out.1.trans HA11.out).trans hA12); clear hA12)
        | (go_at_call 21; have q8 := same_no8 (ga := ga) (gc := gc) (dc := dc) (oc := oc) HO8.out H2.out HM.out.2 (HDQ.out.2.1.adds HA8.out.2) (fun g hg => (HDQ.out.2.2.1 g hg).adds HA8.out.2) HO.out.was HO.out.now HO.out.nt HO.out.nh HO.out.nl; have HS8 := hid q8.2; refine q8.1.mono ?_; clear q8; rintro e w9 ⟨rfl, hA9⟩; have HA9 := hid hA9; clear hA9)
        | (at_builtin; refine append_bb1g (by rfl) _ _ rfl v10 dn (t.map GV) rfl (row_touch HG10.out.1 ((Touch.refl _ w10).alloc _) (fun _ _ => id)) w10.heap.size (.slice ga m gc) rfl (cellOf (heap_alloc_new w10 _) 0) rfl (by omega) ?_; intro v11 w11 G11; obtain ⟨na, nc, hv11, hq11, hA11⟩ := bb_fin2 HG10.out.2.1 HG10.out.2.2 G11; subst hv11; have HQ11 := hid hq11; have HA11 := hid (HA9.out.trans hA11); clear G11 hq11 hA11)
        | (at_builtin; refine append_bbmg (Q' := Nw wB OL OD) (by rfl) _ _ rfl (.slice (some ⟨w9.heap.size, 0, none⟩) 0 0) 0 [] rfl (bss_lit w9) da dn dc (t.map GV) (by rw [List.length_map, HM.out.2]) rfl HDQ.out.1 (HDQ.out.2.1.adds ((HA8.out.2.trans HA9.out).alloc _)) (one_GV t) (by omega) ?_; intro v10 w10 G10; have HG10 := hid (bb_fin G10); clear G10))
        go_ret
        exact ⟨rfl, HA12.out⟩
end Go.Proofs.YtllkplanjfnnmaaDoor
