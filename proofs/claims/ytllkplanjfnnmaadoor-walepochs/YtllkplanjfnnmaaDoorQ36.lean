/- WalEpochs. -/
import Derived.Test.YtllkplanjfnnmaaDoorQ35
import Derived.Deep.CutBlock
import Derived.Deep.DeepCutAuto
namespace Go.Proofs.YtllkplanjfnnmaaDoor
open Go.RowKit
set_option maxRecDepth 100000 in
set_option maxHeartbeats 3000000 in
theorem epochs8 (a a2 : Option Addr) (n cap n2 cap2 : Nat) (kp : Int) (w : World) (hT : Tab w) (hI : NumsAt w a n) (hI2 : NumsAt w a2 n2) : Calls Tryd.prog 6 #[.slice a n cap, .slice a2 n2 cap2, .int .i64 kp] w (Adding (.bool true) w) := by
  have HB := hid (show Calls Tryd.prog 17 #[.int .i64 9] w (PBeg w 9) from began_any 9 (by decide) (by decide) w hT)
  have HW := hid (fun w' (hA : Adds w w') => works8 w' (hT.adds hA))
  have HI := hid hI
  have HI2 := hid hI2
  have HT := hid hT
  clear hT hI hI2
  go_enter Tryd.func6, Tryd.ntmps6
  go_upto_block 0 with (first
    | (go_at_call 17; refine HB.out.mono ?_; rintro e w1 ⟨l, p, rfl, H1⟩; obtain ⟨OL1, OD1, h1⟩ := H1.out; have HW1 := hid (show Wl w w1 OL1 OD1 l p ⟨1, 9, 2, false, [], []⟩ (dSt.new 10) from h1); clear h1 H1)
    | (go_at_call 16; refine (HW.out w1 HW1.out.adds).mono ?_; rintro e w2 ⟨rfl, hA2⟩; have HW2 := hid (HW1.out.add hA2); clear hA2))
  go_cut [9] (fun i wx => Hid (∃ L D OL OD, Wl w wx OL OD l p L D ∧ Two L ∧ L.Ok ∧ Old D 9 ∧ DOk D 100))
  case first =>
    go_wp2_with fail
    go_loopw [9] (fun i wr => ∃ k : Nat, k ≤ n ∧ k ≤ 10 ∧ i = .int .i64 (k : Int) ∧ Hid (∃ L D OL OD, Wl w wr OL OD l p L D ∧ Two L ∧ L.Ok ∧ Old D 9 ∧ DOk D (10 * k))) (fun i _ => 10 - (intOf i).toNat)
    case atStart => exact ⟨0, Nat.zero_le _, Nat.zero_le _, rfl, _, _, OL1, OD1, HW2.out, ⟨rfl, rfl, rfl, rfl⟩, ok0 9 (by decide), old_new 9, dnew_ok _ _ (by decide)⟩
    case round =>
      obtain ⟨k, hkn, hk10, rfl, HR⟩ := hrel
      by_cases hlt : k < n ∧ k < 10
      · obtain ⟨b, o, z, rfl, hz⟩ := HI.out k hlt.1
        obtain ⟨L, D, OL, OD, hR⟩ := HR.out
        have hc : wr.cell? ⟨b, o + k, none⟩ = some (.int .i64 z) := below_adds hR.1.adds hz
        have HRR := hid hR
        have h1 := hlt.1
        have h2 := hlt.2
        have d1 : decide (k < n) = true := by simpa using h1
        have d2 : decide ((k : Int) < 10) = true := by simp; omega
        clear hz hlt HR hR
        by_cases hk3 : k % 3 = 0
        · have hk4 : (k : Int).tmod 3 = 0 := by rw [Int.tmod_eq_emod_of_nonneg (by omega)]; omega
          have hk5 : ((k : Int).tmod 3 == 0) = true := by simpa using hk4
          go_wp2_with (first
            | (go_at_call 19; refine (show Calls Tryd.prog 19 #[.int .i64 (z.tmod 100), .int .u8 3] _ (PB8 _) from body_p _ 3 _).mono ?_; rintro e w3 ⟨bs, bl, rfl, H3⟩; have HX3 := hid (part_mine (HRR.out.1) H3.out.2.2); have HW3 := hid (HRR.out.1.add H3.out.2.2.2))
            | (go_at_call 9; refine (app_two HW3.out HRR.out.2.1 HRR.out.2.2.1 _ bs bl bl H3.out.1 HX3.out.at_.at).mono ?_; rintro e w4 ⟨ze, rfl, H4⟩)
            | (go_at_call 10; refine (com8 H4.out HRR.out.2.2.2.1 HRR.out.2.2.2.2 (by omega) HT.out).mono ?_; rintro e w5 ⟨rfl, H5⟩))
          go_roundw
          case rel => exact ⟨k + 1, by omega, by omega, by go_num, H5.out⟩
          case measure => simp [intOf]; omega
        · have hk4 : ¬ (k : Int).tmod 3 = 0 := by rw [Int.tmod_eq_emod_of_nonneg (by omega)]; omega
          have hk5 : ((k : Int).tmod 3 == 0) = false := by simpa using hk4
          go_wp2_with (first
            | (go_at_call 19; refine (show Calls Tryd.prog 19 #[.int .i64 (z.tmod 100), .int .u8 3] _ (PB8 _) from body_p _ 3 _).mono ?_; rintro e w3 ⟨bs, bl, rfl, H3⟩; have HX3 := hid (part_mine (HRR.out.1) H3.out.2.2); have HW3 := hid (HRR.out.1.add H3.out.2.2.2))
            | (go_at_call 9; refine (app_two HW3.out HRR.out.2.1 HRR.out.2.2.1 _ bs bl bl H3.out.1 HX3.out.at_.at).mono ?_; rintro e w4 ⟨ze, rfl, H4⟩))
          go_roundw
          case rel => exact ⟨k + 1, by omega, by omega, by go_num, next8 H4.out HRR.out.2.2.2.1 HRR.out.2.2.2.2 (by omega)⟩
          case measure => simp [intOf]; omega
      · have HE := hid (show ∃ L D OL OD, Wl w wr OL OD l p L D ∧ Two L ∧ L.Ok ∧ Old D 9 ∧ DOk D 100 by
          obtain ⟨L, D, OL, OD, q1, q2, q3, q4, q5⟩ := HR.out
          exact ⟨L, D, OL, OD, q1, q2, q3, q4, q5.mono (by omega)⟩)
        by_cases hkn2 : k < n
        · have d1 : decide (k < n) = true := by simpa using hkn2
          have d2 : decide ((k : Int) < 10) = false := by simp; omega
          have d3 : ¬ k < 10 := by omega
          go_wp2_with fail
          go_meet
          case rel => exact HE.out
        · have d1 : decide (k < n) = false := by simpa using hkn2
          go_wp2_with fail
          go_meet
          case rel => exact HE.out
  case rest =>
    obtain ⟨L2, D2, OL2, OD2, hR2⟩ := hcut.out
    have HR2 := hid hR2
    clear hcut hR2 HW HW1 HW2 HB HI
    go_upto_block 2 with (first
      | (go_at_call 10; refine (com_two HR2.out.1 HR2.out.2.1 HR2.out.2.2.1 HR2.out.2.2.2.1 HR2.out.2.2.2.2 (by decide) HT.out).mono ?_; rintro e w3 ⟨rfl, H3⟩; obtain ⟨L3, D3, OL3, OD3, h3⟩ := H3.out; have HR3 := hid h3; obtain ⟨st, hst⟩ : ∃ st, st = D3.steps := ⟨_, rfl⟩; have HST := hid hst; clear hst h3 H3 HR2)
      | (go_at_call 8; refine (beg3_two HW4.out HR3.out.2.1).mono ?_; rintro e w5 ⟨rfl, H5⟩; obtain ⟨OL5, OD5, h5, _, _⟩ := H5.out; have HW5 := hid h5; clear h5 H5)
      | (go_at_call 8; refine (beg2_two HR3.out.1 HR3.out.2.1).mono ?_; rintro e w4 ⟨rfl, H4⟩; obtain ⟨OL4, OD4, h4, _, _⟩ := H4.out; have HW4 := hid h4; clear h4 H4)
      | (go_at_call 23; refine (steps_l HW5.out HR3.out.2.2.2.2 HST.out).mono ?_; rintro e _ ⟨rfl, hw⟩; rw [hw]; clear hw)
      | (go_at_call 23; refine (steps_l HR3.out.1 HR3.out.2.2.2.2 HST.out).mono ?_; rintro e _ ⟨rfl, hw⟩; rw [hw]; clear hw)
      | (go_at_call 14; refine (show Calls Tryd.prog 14 #[Ptr l] w5 (Tells (.int .i64 0) w5) from wl_used HW5.out).mono ?_; rintro e _ ⟨rfl, hw⟩; rw [hw]; clear hw)
      | (go_at_call 12; refine (groups_no HW5.out rfl).mono ?_; rintro e w6 ⟨ga, gc, rfl, hA6⟩; have HW6 := hid (HW5.out.add hA6); clear hA6))
    go_cut [11, 12, 13] (fun v i bb wx => ∃ hs : List Part, Hid (hs.length ≤ 10 ∧ ∃ OL OD, Wl w wx OL OD l p (L9 (hs.map (·.bs))) D3 ∧ Gr (Nw w OL OD) wx v hs ∧ (L9 (hs.map (·.bs))).Ok))
    case first =>
      go_wp2_with fail
      go_loopw [11, 12] (fun v i wr => ∃ (k : Nat) (hs : List Part), k ≤ n2 ∧ k ≤ 10 ∧ i = .int .i64 (k : Int) ∧ hs.length ≤ k ∧ Hid (∃ OL OD, Wl w wr OL OD l p (L9 (hs.map (·.bs))) D3 ∧ Gr (Nw w OL OD) wr v hs ∧ (L9 (hs.map (·.bs))).Ok)) (fun _ i _ => 10 - (intOf i).toNat)
      case atStart => exact ⟨0, [], Nat.zero_le _, Nat.zero_le _, rfl, Nat.zero_le _, OL5, OD5, HW6.out, Gr.nil _ _, ok9⟩
      case round =>
        obtain ⟨k, hs, hkn, hk10, rfl, hsk, HR⟩ := hrel
        by_cases hlt : k < n2 ∧ k < 10
        · obtain ⟨b, o, z, rfl, hz⟩ := HI2.out k hlt.1
          obtain ⟨OL, OD, hR⟩ := HR.out
          have hc : wr.cell? ⟨b, o + k, none⟩ = some (.int .i64 z) := below_adds hR.1.adds hz
          have HRR := hid hR
          have h1 := hlt.1
          have h2 := hlt.2
          have d1 : decide (k < n2) = true := by simpa using h1
          have d2 : decide ((k : Int) < 10) = true := by simp; omega
          obtain ⟨bs, hbs⟩ : ∃ bs, bs = bodyB 9 (bodyN z) := ⟨_, rfl⟩
          have HBd := hid (show Calls Tryd.prog 19 #[.int .i64 z, .int .u8 9] wr (PBody8 wr bs) by have q := body8_any z 9 wr; rw [← hbs] at q; exact q)
          have hbl : bs.length < 700 := by rw [hbs]; exact len_bodyN z _
          obtain ⟨bl, hbl2⟩ : ∃ bl, bl = bs.length := ⟨_, rfl⟩
          have HBL := hid (And.intro hbl hbl2)
          rw [← hbl2] at hbl
          have HV := hid (show u11.ownBlock ≠ some wr.heap.size from fun c => by have := (hR.2.1.own _ c).2; omega)
          obtain ⟨sc, hsc⟩ : ∃ sc, sc = W.secs (W.gbytes (hs.map (·.bs) ++ [bs])).length := ⟨_, rfl⟩
          have HSC := hid hsc
          clear hz hlt HR hR hbs hbl2 hsc
          by_cases hf : sc ≤ 9
          · have HOk := hid (show (L9 (hs.map (·.bs) ++ [bs])).Ok by have q := HRR.out.2.2.app bs; rw [((l9_app (R := hs.map (·.bs)) HBL.out.1).1 (by rw [← HSC.out]; exact hf)).2] at q; exact q)
            have HAp := hid (fun (w' : World) (h : Wl w w' OL OD l p (L9 (hs.map (·.bs))) D3) (hx : At w' (some ⟨wr.heap.size, 0, none⟩) bs) => show Calls Tryd.prog 9 #[Ptr l, .slice (some ⟨wr.heap.size, 0, none⟩) bl bl] w' (PWl w w' OL OD l p (L9 (hs.map (·.bs) ++ [bs])) D3 (.int .i64 0)) by
              have q := wl_append h HRR.out.2.2 (some ⟨wr.heap.size, 0, none⟩) bs bl bl HBL.out.2.symm hx
              have e := (l9_app (R := hs.map (·.bs)) HBL.out.1).1 (by rw [← HSC.out]; exact hf)
              rw [e.1, e.2] at q
              exact q)
            go_wp2_with (first
              | (go_at_call 19; refine HBd.out.mono ?_; rintro e w3 ⟨rfl, H3⟩; rw [← HBL.out.2]; have HX3 := hid (part_new H3.out); have HW3 := hid (HRR.out.1.add H3.out.2); have HG3 := hid (HRR.out.2.1.adds H3.out.2))
              | (go_at_call 9; refine (HAp.out w3 HW3.out HX3.out.at_.at).mono ?_; rintro e w7 ⟨rfl, H7⟩; obtain ⟨OL7, OD7, h7, t7, n7⟩ := H7.out; have HW7 := hid h7; have HG7 := hid (HG3.out.call t7 n7); have HX7 := hid (HX3.out.touch t7 (fun k q c => by subst q; have := HRR.out.1.lt _ c; omega)); have HB7 := hid (blk_new HRR.out.1 H3.out.2 n7 (heap_lt H3.out.1)); clear h7 t7 n7 H7)
              | (at_builtin; refine append_b1 rfl _ _ rfl u11 hs.length (hs.map PV) rfl (HG7.out.adds ((Touch.refl _ w7).alloc _)).rows w7.heap.size (.slice (some ⟨wr.heap.size, 0, none⟩) bl bl) rfl (cellOf (heap_alloc_new w7 _) 0) rfl (by omega) ?_; intro v5 w5 G5; have HG5 := hid (gr_more HW7.out HG7.out HX7.out HB7.out HV.out rfl HBL.out.2 G5); clear G5))
            go_roundw
            case rel => exact ⟨k + 1, hs ++ [⟨some ⟨wr.heap.size, 0, none⟩, bs, bs.length⟩], by omega, by omega, by go_num, by simp; omega, OL7, OD7, by rw [List.map_append]; exact HG5.out.1, HG5.out.2, by rw [List.map_append]; exact HOk.out⟩
            case measure => simp [intOf]; omega
          · have hf' := hf
            have HAp := hid (fun (w' : World) (h : Wl w w' OL OD l p (L9 (hs.map (·.bs))) D3) (hx : At w' (some ⟨wr.heap.size, 0, none⟩) bs) => show Calls Tryd.prog 9 #[Ptr l, .slice (some ⟨wr.heap.size, 0, none⟩) bl bl] w' (PWl w w' OL OD l p (L9 (hs.map (·.bs))) D3 (.int .i64 31)) by
              have q := wl_append h HRR.out.2.2 (some ⟨wr.heap.size, 0, none⟩) bs bl bl HBL.out.2.symm hx
              have e := (l9_app (R := hs.map (·.bs)) HBL.out.1).2 (by rw [← HSC.out]; exact hf)
              rw [e.1, e.2] at q
              exact q)
            go_wp2_with (first
              | (go_at_call 19; refine HBd.out.mono ?_; rintro e w3 ⟨rfl, H3⟩; rw [← HBL.out.2]; have HX3 := hid (part_new H3.out); have HW3 := hid (HRR.out.1.add H3.out.2); have HG3 := hid (HRR.out.2.1.adds H3.out.2))
              | (go_at_call 9; refine (HAp.out w3 HW3.out HX3.out.at_.at).mono ?_; rintro e w7 ⟨rfl, H7⟩; obtain ⟨OL7, OD7, h7, t7, n7⟩ := H7.out; have HW7 := hid h7; have HG7 := hid (HG3.out.call t7 n7); have HX7 := hid (HX3.out.touch t7 (fun k q c => by subst q; have := HRR.out.1.lt _ c; omega)); have HB7 := hid (blk_new HRR.out.1 H3.out.2 n7 (heap_lt H3.out.1)); clear h7 t7 n7 H7))
            go_roundw
            case rel => exact ⟨k + 1, hs, by omega, by omega, by go_num, by omega, OL7, OD7, HW7.out, HG7.out, HRR.out.2.2⟩
            case measure => simp [intOf]; omega
        · have HE := hid (show hs.length ≤ 10 ∧ ∃ OL OD, Wl w wr OL OD l p (L9 (hs.map (·.bs))) D3 ∧ Gr (Nw w OL OD) wr u11 hs ∧ (L9 (hs.map (·.bs))).Ok from ⟨by omega, HR.out⟩)
          by_cases hkn2 : k < n2
          · have d1 : decide (k < n2) = true := by simpa using hkn2
            have d2 : decide ((k : Int) < 10) = false := by simp; omega
            have d3 : ¬ k < 10 := by omega
            go_wp2_with fail
            go_meet
            case rel => exact ⟨hs, HE.out⟩
          · have d1 : decide (k < n2) = false := by simpa using hkn2
            go_wp2_with fail
            go_meet
            case rel => exact ⟨hs, HE.out⟩
    case rest =>
      obtain ⟨hs, H6⟩ := hcut
      obtain ⟨hs10, OL6, OD6, hW6, hG6, hk6⟩ := H6.out
      have HW6b := hid hW6
      have HG6 := hid hG6
      have HOk := hid hk6
      have HL10 := hid hs10
      have HD3 := hid (And.intro HR3.out.2.2.2.1 HR3.out.2.2.2.2)
      obtain ⟨nn, hnn⟩ : ∃ nn, nn = cutN kp := ⟨_, rfl⟩
      have hn12 : nn < 12 := by rw [hnn]; unfold cutN; omega
      have hwr := cut_wrap kp
      rw [← hnn] at hwr
      clear H6 hW6 hG6 hk6 hs10 hnn HW6 HW5 HW4 HR3 HST HI2
      go_upto_block 4 with (first
        | (go_at_call 18; refine (cut9 HW6b.out HD3.out.2 (by first | exact hwr | rfl | omega)).mono ?_; rintro e w1 ⟨rfl, H1⟩; obtain ⟨OL7, OD7, h7, t7, n7⟩ := H1.out; have HW7 := hid h7; have HG7 := hid (HG6.out.call t7 n7); clear h7 t7 n7 H1)
        | (go_at_call 10; refine (com9 HW7.out HG7.out HOk.out HD3.out.1 HD3.out.2 (by omega) HT.out).mono ?_; rintro e w2 ⟨ze, Dn, rfl, H2⟩; obtain ⟨wl, hwl⟩ : ∃ wl, wl = Dn.W.length := ⟨_, rfl⟩; have HWL := hid hwl; clear hwl)
        | (go_at_call 24; refine (pend9' H2.out HWL.out (Kp.lit w2).adds).mono ?_; rintro e w3 ⟨pa, pc, rfl, hA3⟩; have HK3 := hid ((Kp.lit w2).add hA3); clear hA3))
      go_cut [16, 124] (fun v t wx => Hid (Kp w2 wx v wl))
      case first =>
        go_wp2_with fail
        go_loopw [16, 124] (fun v t wr => ∃ k : Nat, k ≤ wl ∧ t = .int .i64 (k : Int) ∧ Hid (Kp w2 wr v k)) (fun _ t _ => wl - (intOf t).toNat)
        case atStart => exact ⟨0, Nat.zero_le _, rfl, HK3.out⟩
        case round =>
          obtain ⟨k, hk, rfl, HK⟩ := hrel
          have hwl9 : wl ≤ 9 := by rw [HWL.out]; exact H2.out.2.1
          by_cases hlt : k < wl
          · go_wp2_with (at_builtin; refine append_t4 rfl _ _ rfl u16 k (List.replicate k (.bool true)) rfl (HK.out.add ((Touch.refl _ wr).alloc _)).rows wr.heap.size (.bool true) rfl (cellOf (heap_alloc_new wr _) 0) rfl (by omega) ?_; intro v5 w5 G5; have HK5 := hid (HK.out.more G5); clear G5)
            go_roundw
            case rel => exact ⟨k + 1, by omega, by go_num, HK5.out⟩
            case measure => simp [intOf]; omega
          · obtain rfl : k = wl := by omega
            go_wp2_with fail
            go_meet
            case rel => exact HK.out
      case rest =>
        obtain ⟨ka, kc, hu16, hkept⟩ := hcut.out.at
        subst hu16
        obtain ⟨hF, hW9, hS10, L8, OL8, OD8, hW8, hG8⟩ := H2.out
        obtain ⟨ga2, gc2, hu11, hQ⟩ := (hG8.adds hcut.out.adds).pl
        subst hu11
        have HW8 := hid (hW8.add hcut.out.adds)
        have HQ := hid hQ
        have HKP := hid hkept
        have HS := hid (And.intro hW9 hS10)
        obtain ⟨m, hm⟩ : ∃ m, m = hs.length := ⟨_, rfl⟩
        have HM := hid hm
        rw [← hm]
        obtain ⟨sc, hsc⟩ : ∃ sc, sc = W.secs (W.gbytes (hs.map (·.bs))).length := ⟨_, rfl⟩
        rw [← hsc, ← HWL.out] at hF
        have HSC := hid hsc
        have HF := hid hF
        clear hF hW9 hS10 hW8 hG8 hQ hkept hm hsc hcut H2 HW7 HG7 HW6b HG6 hwr hn12
        go_upto_region 37 with (first
          | (go_at_call 20; refine (lose9 HW8.out HWL.out HS.out.1 HS.out.2 HKP.out).mono ?_; rintro e w3 ⟨pq, rfl, H3⟩; obtain ⟨OD9, hd3, hO3, hA3⟩ := H3.out; have HDq := hid hd3; have HOq := hid hO3; have HQ3 := hid (HQ.out.adds hA3); have HA3 := hid (HW8.out.adds.trans hA3); clear hd3 hO3 hA3 H3)
          | (go_at_call 7; refine (open9 HDq.out (fun k q => (HOq.out k q).2) (HT.out.adds HA3.out) HS.out.2).mono ?_; rintro e w5 ⟨lo, rfl, H5⟩; have HL5 := hid H5.out.1; have HA5 := hid (HA3.out.trans H5.out.2); have HQ5 := hid (HQ3.out.adds H5.out.2); clear H5))
        rcases HF.out with ⟨hR, hz, hg⟩ | ⟨hR, hz, hg⟩ | ⟨hR, hz, hx, hg⟩ | ⟨hR, hz, hx, hg⟩
        · obtain rfl : m = 0 := by rw [HM.out, ← List.length_map (f := (·.bs)), hR]; rfl
          subst hz
          have HG := hid (show (⟨1, 9, 3, true, gone Dn, []⟩ : LS).G = [] from hg)
          clear hR hg HF
          go_wp2_with (first
            | (go_at_call 12; refine (none9 HL5.out HG.out).mono ?_; rintro e w7 ⟨oa, oc, rfl, hA7⟩; have HA7 := hid (HA5.out.trans hA7); clear hA7))
          go_ret
          exact ⟨rfl, HA7.out⟩
        · have hm0 : 0 < m := by rw [HM.out, ← List.length_map (f := (·.bs))]; exact List.length_pos_iff.2 hR
          subst hz
          have HRn := hid hR
          have HG := hid (show (⟨1, 9, 3, true, gone Dn, []⟩ : LS).G = [W.gbytes (hs.map (·.bs))] from hg)
          clear hR hg HF
          go_wp2_with (first
            | (go_at_call 21; refine (same9 (g := ⟨ga2, gc2, hs⟩) (m := m) (HO7.out.1.adds ((Touch.refl _ w7).alloc _)) (HO7.out.2.1.adds ((Touch.refl _ w7).alloc _)) (cellOf (heap_alloc_new w7 _) 0) HM.out (HQ7.out.adds ((Touch.refl _ w7).alloc _)) HL10.out HO7.out.2.2.1).mono ?_; rintro e w8 ⟨rfl, hA8⟩; have HA8 := hid ((HA7.out.alloc _).trans hA8); clear hA8)
            | (go_at_call 12; refine (one9 HL5.out HG.out HOk.out HRn.out).mono ?_; rintro e w7 ⟨oa, oc, ox, rfl, HO7⟩; have HQ7 := hid (HQ5.out.adds HO7.out.2.2.2); have HA7 := hid (HA5.out.trans HO7.out.2.2.2)))
          go_ret
          exact ⟨rfl, HA8.out⟩
        · have hm0 : 0 < m := by rw [HM.out, ← List.length_map (f := (·.bs))]; exact List.length_pos_iff.2 hR
          subst hz
          subst hx
          have HRn := hid hR
          have HG := hid (show (⟨1, 9, 3, true, gone Dn, []⟩ : LS).G = [W.gbytes (hs.map (·.bs))] from hg)
          clear hR hg HF
          go_wp2_with (first
            | (go_at_call 22; refine (sec9 (g := ⟨ga2, gc2, hs⟩) HQ5.out HM.out HOk.out HSC.out).mono ?_; rintro e w6 ⟨rfl, hA6⟩; have HL6 := hid (HL5.out.adds hA6); have HA6 := hid (HA5.out.trans hA6); have HQ6 := hid (HQ5.out.adds hA6); clear hA6)
            | (go_at_call 21; refine (same9 (g := ⟨ga2, gc2, hs⟩) (m := m) (HO7.out.1.adds ((Touch.refl _ w7).alloc _)) (HO7.out.2.1.adds ((Touch.refl _ w7).alloc _)) (cellOf (heap_alloc_new w7 _) 0) HM.out (HQ7.out.adds ((Touch.refl _ w7).alloc _)) HL10.out HO7.out.2.2.1).mono ?_; rintro e w8 ⟨rfl, hA8⟩; have HA8 := hid ((HA7.out.alloc _).trans hA8); clear hA8)
            | (go_at_call 12; refine (one9 HL6.out HG.out HOk.out HRn.out).mono ?_; rintro e w7 ⟨oa, oc, ox, rfl, HO7⟩; have HQ7 := hid (HQ6.out.adds HO7.out.2.2.2); have HA7 := hid (HA6.out.trans HO7.out.2.2.2)))
          go_ret
          exact ⟨rfl, HA8.out⟩
        · have hm0 : 0 < m := by rw [HM.out, ← List.length_map (f := (·.bs))]; exact List.length_pos_iff.2 hR
          subst hz
          have hx2 : (wl == sc) = false := by simpa using hx
          have hx3 : ((wl : Int) == (sc : Int)) = false := by simp; omega
          have HG := hid (show (⟨1, 9, 3, true, gone Dn, []⟩ : LS).G = [] from hg)
          clear hR hg HF
          go_wp2_with (first
            | (go_at_call 22; refine (sec9 (g := ⟨ga2, gc2, hs⟩) HQ5.out HM.out HOk.out HSC.out).mono ?_; rintro e w6 ⟨rfl, hA6⟩; have HL6 := hid (HL5.out.adds hA6); have HA6 := hid (HA5.out.trans hA6); have HQ6 := hid (HQ5.out.adds hA6); clear hA6)
            | (go_at_call 12; refine (none9 HL6.out HG.out).mono ?_; rintro e w7 ⟨oa, oc, rfl, hA7⟩; have HA7 := hid (HA6.out.trans hA7); clear hA7))
          go_ret
          exact ⟨rfl, HA7.out⟩
end Go.Proofs.YtllkplanjfnnmaaDoor
