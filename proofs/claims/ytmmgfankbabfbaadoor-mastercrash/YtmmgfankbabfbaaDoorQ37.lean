/- Wherever a Save is cut: what is opened then. -/
import Derived.Test.YtmmgfankbabfbaaDoorQ36
import Derived.Deep.CutBlock
namespace Go.Proofs.YtmmgfankbabfbaaDoor
open Go.RowKit
set_option maxRecDepth 100000 in
theorem rem_wrap4 (z : Int) : ∃ r : Nat, r ≤ 3 ∧ wrap64 ((IntKind.u64.wrap z).tmod 4) = (r : Int) := by
  refine ⟨(z % 18446744073709551616).toNat % 4, by omega, ?_⟩
  rw [IntKind.wrap_u64]
  have h0 : 0 ≤ z % 18446744073709551616 := Int.emod_nonneg _ (by decide)
  rw [Int.tmod_eq_emod_of_nonneg h0]
  unfold wrap64
  omega
set_option maxRecDepth 100000 in
/-- How the last Save ends. -/
theorem fin_of {s : U.MS} {D : dSt} {n0 k c : Nat} {ns : List Nat} (h : Mo s D n0) (h0 : s.lat.ep < k) (h1 : k ≤ 1000000000) (hlt : ∀ n ∈ ns, n < 18446744073709551616) (hc : c ≤ 3) :
    ∃ z D' s', savE s ns (k : Int) (D.cut (c : Int)) = z ∧ savD s ns (k : Int) (D.cut (c : Int)) = D' ∧ savM s ns (k : Int) (D.cut (c : Int)) = s' ∧ D'.size = 3 ∧ D'.W.length ≤ 1 ∧
      ((z = 0 ∧ ns.length ≤ 20 ∧ ∀ (ks : List Bool) (tn at_ : Int), (msAt (D'.lost ks tn at_) 1).lat = ⟨k, ns⟩) ∨
       (z = 10 ∧ ns.length ≤ 20 ∧ ∀ (ks : List Bool) (tn at_ : Int), (0 ≤ tn ∧ tn < D'.W.length → 0 ≤ at_ ∧ at_ ≤ 256) → (msAt (D'.lost ks tn at_) 1).lat = ⟨k, ns⟩ ∨ (msAt (D'.lost ks tn at_) 1).lat = s.lat) ∨
       (z = 3 ∧ ∀ (ks : List Bool) (tn at_ : Int), (msAt (D'.lost ks tn at_) 1).lat = s.lat)) := by
  have hb : ¬ ((k : Int) ≤ s.lat.ep ∨ (1000000000 : Int) < (k : Int)) := by omega
  by_cases hl : 20 < ns.length
  · refine ⟨3, D.cut (c : Int), s, ?_, ?_, ?_, h.size, by show D.W.length ≤ 1; rw [h.on.wait]; exact Nat.zero_le _, .inr (.inr ⟨rfl, fun ks tn at_ => ?_⟩)⟩
    · rw [savE, if_neg hb, if_pos hl]
    · rw [savD, if_neg hb, if_pos hl]
    · rw [savM, if_neg hb, if_pos hl]
    · have e := ms_same h.on (X := (D.cut (c : Int)).lost ks tn at_) rfl (by show loseTo D.H D.W ks tn at_ D.W.length = D.H; rw [h.on.wait]; rfl)
      rw [h.at_] at e
      rw [e]
  · obtain ⟨z, D', hr, hs, hw, hz⟩ := crash h.on h0 h1 (ns := ns) ⟨by omega, hlt⟩ hc
    rw [h.at_] at hz
    refine ⟨z, D', _, ?_, ?_, rfl, by rw [hs]; exact h.size, hw, ?_⟩
    · rw [savE, if_neg hb, if_neg hl, Int.toNat_natCast, hr]
    · rw [savD, if_neg hb, if_neg hl, Int.toNat_natCast, hr]
    · rcases hz with ⟨e, q⟩ | ⟨e, q⟩
      · exact .inl ⟨e, by omega, q⟩
      · exact .inr (.inl ⟨e, by omega, q⟩)
/-- Where the law is. -/
def CS (w0 w : World) (m p : Nat) (n E : Nat) (y : NPart) : Prop := ∃ OM OD s D, Ml w0 w OM OD m p s D ∧ Mo s D n ∧ s.lat = ⟨E, y.ns⟩ ∧ NQ w0 (fun k => k < w0.heap.size) y
theorem cs_zero {w0 w : World} {OM OD : Nat → Prop} {m p : Nat} (h : Ml w0 w OM OD m p ms0 (dSt.new 3)) : CS w0 w m p 0 0 ⟨none, 0, []⟩ := ⟨OM, OD, ms0, dSt.new 3, h, mo_new, rfl, NQ.nil _ _⟩
set_option maxRecDepth 100000 in
theorem dok_cut {D : dSt} {n c : Nat} (h : DOk D n) (hc : c ≤ 3) : DOk (D.cut (c : Int)) n := by
  refine ⟨h.waits, h.steps0, h.steps1, ?_, ?_, h.size⟩
  · show -1 ≤ (if D.left = 0 then 0 else (c : Int)); split <;> omega
  · show (if D.left = 0 then 0 else (c : Int)) ≤ 9223372036854775807; split <;> omega
theorem c_save {w0 w : World} {OM OD Q : Nat → Prop} {m p n0 c : Nat} {s : U.MS} {D : dSt} (h : Ml w0 w OM OD m p s (D.cut (c : Int))) (ho : Mo s D n0) (hc : c ≤ 3) (hn0 : n0 ≤ 700) (hT : Tab w0) (x : NPart) (hq : NQ w Q x) (hQ : ∀ k, Q k → ¬ OD k) (hlt : ∀ n ∈ x.ns, n < 18446744073709551616) (n : Nat) (hn : x.ns.length = n) (e : Int) :
    Calls Tryd.prog 16 #[Ptr m, .slice x.a n x.cap, .int .i64 e] w (PMl w0 w OM OD m p (savM s x.ns e (D.cut (c : Int))) (savD s x.ns e (D.cut (c : Int))) (.int .i64 (savE s x.ns e (D.cut (c : Int))))) :=
  ml_save h ho.on.ok (dok_cut ho.ok hc) (by omega) (by rw [ho.at_]; show ((1 : Nat) : Int) + 2 ≤ D.size; rw [ho.size]; decide) (by show D.size ≤ 4096; rw [ho.size]; decide) hT x.a n x.cap x.ns hn hlt hq hQ e
set_option maxRecDepth 100000 in
set_option maxHeartbeats 16000000 in
theorem crash10 (a1 : Option Addr) (len1 cap1 : Nat) (xs : List NPart) (x2 : NPart) (n2 : Nat) (cut : Int) (ka : Option Addr) (kn kc : Nat) (ks : List Bool) (tn at_ : Int) (w : World) (hT : Tab w) (hX : NsAt w a1 len1 xs) (hl1 : len1 ≤ 9223372036854775807) (hn2 : x2.ns.length = n2) (hq2 : NQ w (fun k => k < w.heap.size) x2) (hlt2 : ∀ n ∈ x2.ns, n < 18446744073709551616) (hkl : ks.length = kn) (hkn : kn ≤ 9223372036854775807) (hks : KeptAt w ka ks) :
    Calls Tryd.prog 5 #[.slice a1 len1 cap1, .slice x2.a n2 x2.cap, .int .i64 cut, .agg #[.slice ka kn kc, .int .i64 tn, .int .i64 at_]] w (Adding (.bool true) w) := by
  obtain ⟨wb, hwb⟩ : ∃ wb, wb = w.alloc (.cells #[.slice ka kn kc, .int .i64 tn, .int .i64 at_] 41) := ⟨_, rfl⟩
  have hAb : Adds w wb := by rw [hwb]; exact (Touch.refl _ w).alloc _
  have hbb : wb.heap[w.heap.size]? = some (.cells #[.slice ka kn kc, .int .i64 tn, .int .i64 at_] 41 (0, 0)) := by rw [hwb]; exact heap_alloc_new w _
  have HT := hid (hT.adds hAb)
  have HB := hid (opened_any wb HT.out)
  have HW := hid (fun w' (hA : Adds wb w') => works10 w' (HT.out.adds hA))
  have hsb := hAb.size
  have HX := hid (show NsAt wb a1 len1 xs from ⟨hX.1, fun k x hx => by
    obtain ⟨b, o, e, hb, hc, hq, hl⟩ := hX.2 k x hx
    exact ⟨b, o, e, by omega, below_adds hAb hc, (hq.adds hAb).mono (fun j _ q => by omega), hl⟩⟩)
  have HL := hid (And.intro hn2 (And.intro ((hq2.adds hAb).mono (Q' := fun k => k < wb.heap.size) (fun j _ q => by omega)) hlt2))
  have HK := hid (show ∀ w', Adds wb w' → KeptAt w' ka ks from fun w' hA j hj => by
    obtain ⟨b, o, e, c⟩ := hks j hj
    exact ⟨b, o, e, below_adds (hAb.trans hA) c⟩)
  have HBb := hid hbb
  have HAb := hid hAb
  have HKl := hid hkl
  have HCl := hid (show ∀ w', Adds wb w' → w'.cell? ⟨w.heap.size, 0, none⟩ = some (.slice ka kn kc) ∧ w'.cell? ⟨w.heap.size, 1, none⟩ = some (.int .i64 tn) ∧ w'.cell? ⟨w.heap.size, 2, none⟩ = some (.int .i64 at_) from fun w' hA => ⟨below_adds hA (cellOf HBb.out 0), below_adds hA (cellOf HBb.out 1), below_adds hA (cellOf HBb.out 2)⟩)
  have HQn := hid (show ∀ (O' : Nat → Prop), (∀ j, O' j → wb.heap.size ≤ j) → ∀ j, j < wb.heap.size → ¬ O' j from fun O' hlow j hj c => absurd (hlow j c) (by omega))
  clear hT hX hn2 hq2 hlt2 hks hbb hAb hkl hsb
  go_enter Tryd.func5, Tryd.ntmps5
  go_upto_region 1 with fail
  rw [← hwb]
  clear hwb
  go_upto_block 0 with (first
    | (go_at_call 17; refine HB.out.mono ?_; rintro e w1 ⟨m, p, rfl, H1⟩; obtain ⟨OM1, OD1, h1⟩ := H1.out; have HW1 := hid h1; clear h1 H1)
    | (go_at_call 9; refine (HW.out w1 HW1.out.adds).mono ?_; rintro e w2 ⟨rfl, hA2⟩; have HW2 := hid (HW1.out.add hA2); clear hA2))
  go_cut [11, 12, 13] (fun v ev iv wx => ∃ (E n : Nat) (y : NPart), E ≤ 6 ∧ v = .slice y.a n y.cap ∧ ev = .int .i64 (E : Int) ∧ Hid (y.ns.length = n ∧ CS wb wx m p 12 E y))
  case first =>
    go_wp2_with fail
    go_loopw [11, 12, 13] (fun v ev iv wr => ∃ (k E n : Nat) (y : NPart), k ≤ 6 ∧ k ≤ len1 ∧ E ≤ k ∧ v = .slice y.a n y.cap ∧ ev = .int .i64 (E : Int) ∧ iv = .int .i64 (k : Int) ∧ Hid (y.ns.length = n ∧ CS wb wr m p (2 * k) E y)) (fun _ _ iv _ => 6 - (intOf iv).toNat)
    case atStart => exact ⟨0, 0, 0, ⟨none, 0, []⟩, Nat.zero_le _, Nat.zero_le _, Nat.zero_le _, rfl, rfl, rfl, rfl, cs_zero HW2.out⟩
    case round =>
      obtain ⟨k, E, n, y, hk6, hk1, hE, rfl, rfl, rfl, HR⟩ := hrel
      have done : Hid (∃ (E' n' : Nat) (y' : NPart), E' ≤ 6 ∧ Value.slice y.a n y.cap = .slice y'.a n' y'.cap ∧ Value.int .i64 (E : Int) = .int .i64 (E' : Int) ∧ Hid (y'.ns.length = n' ∧ CS wb wr m p 12 E' y')) := by
        obtain ⟨hn, OM, OD, s, D, h1, h2, h3, h4⟩ := HR.out
        exact ⟨E, n, y, by omega, rfl, rfl, hn, OM, OD, s, D, h1, ⟨h2.on, h2.ok.mono (by omega), h2.size, h2.at_⟩, h3, h4⟩
      by_cases hlt : k < len1
      · by_cases h6 : k < 6
        · obtain ⟨x, hx⟩ : ∃ x, xs[k]? = some x := ⟨_, List.getElem?_eq_getElem (by rw [HX.out.1]; exact hlt)⟩
          obtain ⟨b, o, rfl, hbl, hc, hq, hlt2, hxl⟩ := HX.out.2 k x hx
          have HQ := hid (And.intro hbl (And.intro hq hlt2))
          obtain ⟨nx, hnx⟩ : ∃ nx, nx = x.ns.length := ⟨_, rfl⟩
          rw [← hnx] at hc hxl
          have HN := hid hnx
          obtain ⟨hny, OM, OD, s, D, hMl, hMo, hlat, hqy⟩ := HR.out
          have HM := hid (And.intro hMl (And.intro hMo (And.intro hlat (And.intro hqy hny))))
          have HC := hid (fun w' (hA : Adds wb w') => below_adds hA hc)
          have hc0 := HC.out wr hMl.adds
          have HQr := hid (show NQ wr (fun j => j < wb.heap.size) x from HQ.out.2.1.adds HM.out.1.adds)
          have hlE : s.lat.ep < E + 1 := by rw [hlat]; exact Nat.lt_succ_self _
          clear hx hbl hc hq hlt2 hnx hMl hMo hlat hqy hny HX done
          by_cases hl : 20 < nx
          · have HS := hid (t_long HM.out.1 HM.out.2.1 (by omega) HT.out x HQr.out (HQn.out OD (fun j c => HM.out.1.low j (.inr c))) HQ.out.2.2 nx HN.out.symm (E + 1) hlE (by omega) hl)
            clear hl hlE
            go_wp2_with (first
              | (go_at_call 16; refine HS.out.mono ?_; rintro e w3 ⟨rfl, H3⟩; obtain ⟨OM3, OD3, h3, _, _⟩ := H3.out; have HW3 := hid h3; have c3 := HC.out w3 h3.adds; clear h3 H3))
            go_roundw
            case rel => exact ⟨k + 1, E, n, y, by omega, by omega, by omega, rfl, rfl, by go_num, HM.out.2.2.2.2, OM3, OD3, s, D, HW3.out, ⟨HM.out.2.1.on, HM.out.2.1.ok.mono (by omega), HM.out.2.1.size, HM.out.2.1.at_⟩, HM.out.2.2.1, HM.out.2.2.2.1⟩
            case measure => simp [intOf]; omega
          · have HS := hid (t_save HM.out.1 HM.out.2.1 (by omega) HT.out x HQr.out (HQn.out OD (fun j c => HM.out.1.low j (.inr c))) HQ.out.2.2 nx HN.out.symm (E + 1) hlE (by omega) (by omega))
            have HP := hid (put_lat (ns := x.ns) hlE)
            have MO := hid (HM.out.2.1.two (ns := x.ns) hlE (by omega) ⟨by rw [← HN.out]; omega, HQ.out.2.2⟩)
            generalize s.put s.other ⟨E + 1, x.ns⟩ = s3 at *
            generalize on2 s x.ns (E + 1) D = D3 at *
            clear hl hlE
            go_wp2_with (first
              | (go_at_call 16; refine HS.out.mono ?_; rintro e w3 ⟨rfl, H3⟩; obtain ⟨OM3, OD3, h3, _, _⟩ := H3.out; have HW3 := hid h3; have c3 := HC.out w3 h3.adds; clear h3 H3))
            go_roundw
            case rel => exact ⟨k + 1, E + 1, nx, x, by omega, by omega, by omega, rfl, by go_num, by go_num, HN.out.symm, OM3, OD3, s3, D3, HW3.out, MO.out, HP.out.1, HQ.out.2.1⟩
            case measure => simp [intOf]; omega
        · obtain rfl : k = 6 := by omega
          go_wp2_with fail
          go_meet
          exact done.out
      · obtain rfl : k = len1 := by omega
        go_wp2_with fail
        go_meet
        exact done.out
  case rest =>
    obtain ⟨E, n, y, hE, rfl, rfl, HR⟩ := hcut
    obtain ⟨hny, OM, OD, s, D, hMl, hMo, hlat, hqy⟩ := HR.out
    obtain ⟨c, hc3, hrw⟩ := rem_wrap4 cut
    obtain ⟨z, D', s', hz, hD', hs', hsz, hwl, hout⟩ := fin_of hMo (k := E + 1) (c := c) (ns := x2.ns) (by rw [hlat]; exact Nat.lt_succ_self _) (by omega) HL.out.2.2 hc3
    have HM := hid (And.intro hMl (And.intro hMo (And.intro hlat (And.intro hqy hny))))
    have HCu := hid (ml_cut hMl (by rw [hMo.size]; decide) (c : Int) (by omega))
    have HSv := hid (fun w' OM' OD' (h : Ml wb w' OM' OD' m p s (D.cut (c : Int))) (hq : NQ w' (fun j => j < wb.heap.size) x2) => show Calls Tryd.prog 16 #[Ptr m, .slice x2.a n2 x2.cap, .int .i64 ((E : Int) + 1)] w' (PMl wb w' OM' OD' m p s' D' (.int .i64 z)) by
      have q := c_save h hMo hc3 (by omega) HT.out x2 hq (HQn.out _ (fun j c => h.low j (.inr c))) HL.out.2.2 n2 HL.out.1 (((E + 1 : Nat) : Int))
      rw [hz, hD', hs', show ((E + 1 : Nat) : Int) = (E : Int) + 1 by omega] at q
      exact q)
    have HLo := hid (fun w' OD' (h : IsDO w' OD' p D') (hA : Adds wb w') (hat : 0 ≤ tn ∧ tn < D'.W.length → 0 ≤ at_ ∧ at_ ≤ 256) => do_lose h (by omega) (by rw [hsz]; decide) ka kn kc ks HKl.out tn at_ (HK.out w' hA) hkn hat)
    have HLb := hid (fun w' OD' (h : IsDO w' OD' p D') (ht : 0 ≤ tn ∧ tn < D'.W.length) (hat : at_ < 0 ∨ 256 < at_) => do_bad h (by omega) (by rw [hsz]; decide) ka kn kc tn at_ ht hat)
    have HSz := hid hsz
    have HO := hid hout
    clear hMl hMo hlat hqy hny hz hD' hs' hwl HR hout hsz HX
    go_upto_region 15 with (first
      | (go_at_call 18; refine HCu.out.mono ?_; rintro e w3 ⟨rfl, H3⟩; obtain ⟨OM3, OD3, h3, _, _⟩ := H3.out; have HW3 := hid h3; clear h3 H3)
      | (go_at_call 16; refine (HSv.out w3 _ _ HW3.out (HL.out.2.1.adds HW3.out.adds)).mono ?_; rintro e w4 ⟨rfl, H4⟩; obtain ⟨OM4, OD4, h4, _, _⟩ := H4.out; have HW4 := hid h4; obtain ⟨l0, l1, l2⟩ := HCl.out w4 h4.adds; clear h4 H4))
    by_cases hval : 0 ≤ tn ∧ tn < D'.W.length → 0 ≤ at_ ∧ at_ ≤ 256
    · have HLo2 := hid (HLo.out w4 OD4 HW4.out.disk HW4.out.adds hval)
      have HO2 := hid (show (z = 0 ∧ x2.ns.length ≤ 20 ∧ (msAt (D'.lost ks tn at_) 1).lat = ⟨E + 1, x2.ns⟩) ∨ (z = 10 ∧ x2.ns.length ≤ 20 ∧ (msAt (D'.lost ks tn at_) 1).lat = ⟨E + 1, x2.ns⟩) ∨ (z = 10 ∧ (msAt (D'.lost ks tn at_) 1).lat = ⟨E, y.ns⟩) ∨ (z = 3 ∧ (msAt (D'.lost ks tn at_) 1).lat = ⟨E, y.ns⟩) by
        have hl := HM.out.2.2.1
        rcases HO.out with ⟨h1, h2, h3⟩ | ⟨h1, h2, h3⟩ | ⟨h1, h3⟩
        · exact .inl ⟨h1, h2, h3 ks tn at_⟩
        · rcases h3 ks tn at_ hval with q | q
          · exact .inr (.inl ⟨h1, h2, q⟩)
          · exact .inr (.inr (.inl ⟨h1, by rw [q, hl]⟩))
        · exact .inr (.inr (.inr ⟨h1, by rw [h3 ks tn at_, hl]⟩)))
      have HOp := hid (fun w' OD' p' (h : IsDO w' OD' p' (D'.lost ks tn at_)) (hA : Adds wb w') => do_open h (HT.out.adds hA) ks tn at_ D' rfl HSz.out)
      have HOk := hid (show (msAt (D'.lost ks tn at_) 1).Ok from ⟨by show 1 ≤ 4096; decide, U.slot_ok _, U.slot_ok _⟩)
      have HNy := hid (show y.ns.length ≤ 20 by have q := HM.out.2.1.on.ok.lat.fit.len; rw [HM.out.2.2.1] at q; exact q)
      have hen : decide ((0 : Int) < (E : Int)) = decide (0 < E) := by congr 1; exact propext ⟨fun h => by omega, fun h => by omega⟩
      generalize D'.lost ks tn at_ = DL at *
      generalize msAt DL 1 = sl at *
      clear hval HLo HLb HO HCu HSv
      rcases HO2.out with ⟨hz, hl20, hlat⟩ | ⟨hz, hl20, hlat⟩ | ⟨hz, hlat⟩ | ⟨hz, hlat⟩
      · subst hz
        have HLt := hid hlat
        have HLn := hid (show n2 ≤ 1000000 by rw [← HL.out.1]; omega)
        have hEc : ((E + 1 : Nat) : Int) = (E : Int) + 1 := by omega
        clear hlat hl20
        go_wp2_with (first
          | (go_at_call 19; refine HLo2.out.mono ?_; rintro e w5 ⟨q5, rfl, H5⟩; obtain ⟨OD5, h5, hO5, hA5⟩ := H5.out; have HD5 := hid (And.intro h5 (HW4.out.adds.trans hA5)); clear h5 hO5 hA5 H5)
          | (go_at_call 13; refine (HOp.out w5 _ q5 HD5.out.1 HD5.out.2).mono ?_; rintro e w6 ⟨o6, rfl, H6⟩; have A6 := hid (HD5.out.2.trans H6.out.2))
          | (go_at_call 14; refine (m_late H6.out.1 HOk.out (E + 1) n2 x2.ns HLt.out HL.out.1 true (by simp)).mono ?_; rintro e w7 ⟨a7, c7, rfl, H7⟩; have A7 := hid (A6.out.trans H7.out.2))
          | (go_at_call 20; refine (same10 a7 x2.a c7 x2.cap n2 n2 x2.ns x2.ns w7 HL.out.1 HL.out.1 H7.out.1 (HL.out.2.1.adds A7.out) ⟨HLn.out, HLn.out⟩ true (by simp)).mono ?_; rintro e w8 ⟨rfl, hA8⟩; have A8 := hid (A7.out.trans hA8); clear hA8))
        go_ret
        exact ⟨rfl, HAb.out.trans A8.out⟩
      · subst hz
        have HLt := hid hlat
        have HLn := hid (show n2 ≤ 1000000 by rw [← HL.out.1]; omega)
        have hEc : ((E + 1 : Nat) : Int) = (E : Int) + 1 := by omega
        clear hlat hl20
        go_wp2_with (first
          | (go_at_call 19; refine HLo2.out.mono ?_; rintro e w5 ⟨q5, rfl, H5⟩; obtain ⟨OD5, h5, hO5, hA5⟩ := H5.out; have HD5 := hid (And.intro h5 (HW4.out.adds.trans hA5)); clear h5 hO5 hA5 H5)
          | (go_at_call 13; refine (HOp.out w5 _ q5 HD5.out.1 HD5.out.2).mono ?_; rintro e w6 ⟨o6, rfl, H6⟩; have A6 := hid (HD5.out.2.trans H6.out.2))
          | (go_at_call 14; refine (m_late H6.out.1 HOk.out (E + 1) n2 x2.ns HLt.out HL.out.1 true (by simp)).mono ?_; rintro e w7 ⟨a7, c7, rfl, H7⟩; have A7 := hid (A6.out.trans H7.out.2))
          | (go_at_call 20; refine (same10 a7 x2.a c7 x2.cap n2 n2 x2.ns x2.ns w7 HL.out.1 HL.out.1 H7.out.1 (HL.out.2.1.adds A7.out) ⟨HLn.out, HLn.out⟩ true (by simp)).mono ?_; rintro e w8 ⟨rfl, hA8⟩; have A8 := hid (A7.out.trans hA8); clear hA8))
        go_ret
        exact ⟨rfl, HAb.out.trans A8.out⟩
      · subst hz
        have HLt := hid hlat
        have HLn := hid (show n ≤ 1000000 by rw [← HM.out.2.2.2.2]; have := HNy.out; omega)
        have hE1 : ¬ (E : Int) = (E : Int) + 1 := by omega
        have hE2 : ((E : Int) == (E : Int) + 1) = false := by simpa using hE1
        clear hlat hen
        rcases Nat.eq_zero_or_pos E with hE0 | hE0
        · subst hE0
          have HBE := hid (show decide (0 < 0) = false by decide)
          clear hE1 hE2
          go_wp2_with (first
            | (go_at_call 19; refine HLo2.out.mono ?_; rintro e w5 ⟨q5, rfl, H5⟩; obtain ⟨OD5, h5, hO5, hA5⟩ := H5.out; have HD5 := hid (And.intro h5 (HW4.out.adds.trans hA5)); clear h5 hO5 hA5 H5)
            | (go_at_call 13; refine (HOp.out w5 _ q5 HD5.out.1 HD5.out.2).mono ?_; rintro e w6 ⟨o6, rfl, H6⟩; have A6 := hid (HD5.out.2.trans H6.out.2))
            | (go_at_call 14; refine (m_late H6.out.1 HOk.out 0 n y.ns HLt.out HM.out.2.2.2.2 _ HBE.out).mono ?_; rintro e w7 ⟨a7, c7, rfl, H7⟩; have A7 := hid (A6.out.trans H7.out.2))
            | (go_at_call 20; refine (same10 a7 y.a c7 y.cap n n y.ns y.ns w7 HM.out.2.2.2.2 HM.out.2.2.2.2 H7.out.1 (HM.out.2.2.2.1.adds A7.out) ⟨HLn.out, HLn.out⟩ true (by simp)).mono ?_; rintro e w8 ⟨rfl, hA8⟩; have A8 := hid (A7.out.trans hA8); clear hA8))
          go_ret
          exact ⟨rfl, HAb.out.trans A8.out⟩
        · have HBE := hid (show decide (0 < E) = true by simpa using hE0)
          have hE3 : ¬ E = 0 := by omega
          have hE4 : (0 : Int) < (E : Int) := by omega
          have hE5 : decide ((0 : Int) < (E : Int)) = true := by simpa using hE4
          have hE6 : decide (0 < E) = true := HBE.out
          go_wp2_with (first
            | (go_at_call 19; refine HLo2.out.mono ?_; rintro e w5 ⟨q5, rfl, H5⟩; obtain ⟨OD5, h5, hO5, hA5⟩ := H5.out; have HD5 := hid (And.intro h5 (HW4.out.adds.trans hA5)); clear h5 hO5 hA5 H5)
            | (go_at_call 13; refine (HOp.out w5 _ q5 HD5.out.1 HD5.out.2).mono ?_; rintro e w6 ⟨o6, rfl, H6⟩; have A6 := hid (HD5.out.2.trans H6.out.2))
            | (go_at_call 14; refine (m_late H6.out.1 HOk.out E n y.ns HLt.out HM.out.2.2.2.2 _ HBE.out).mono ?_; rintro e w7 ⟨a7, c7, rfl, H7⟩; have A7 := hid (A6.out.trans H7.out.2))
            | (go_at_call 20; refine (same10 a7 y.a c7 y.cap n n y.ns y.ns w7 HM.out.2.2.2.2 HM.out.2.2.2.2 H7.out.1 (HM.out.2.2.2.1.adds A7.out) ⟨HLn.out, HLn.out⟩ true (by simp)).mono ?_; rintro e w8 ⟨rfl, hA8⟩; have A8 := hid (A7.out.trans hA8); clear hA8))
          go_ret
          exact ⟨rfl, HAb.out.trans A8.out⟩
      · subst hz
        have HLt := hid hlat
        have HLn := hid (show n ≤ 1000000 by rw [← HM.out.2.2.2.2]; have := HNy.out; omega)
        have hE1 : ¬ (E : Int) = (E : Int) + 1 := by omega
        have hE2 : ((E : Int) == (E : Int) + 1) = false := by simpa using hE1
        clear hlat hen
        rcases Nat.eq_zero_or_pos E with hE0 | hE0
        · subst hE0
          have HBE := hid (show decide (0 < 0) = false by decide)
          clear hE1 hE2
          go_wp2_with (first
            | (go_at_call 19; refine HLo2.out.mono ?_; rintro e w5 ⟨q5, rfl, H5⟩; obtain ⟨OD5, h5, hO5, hA5⟩ := H5.out; have HD5 := hid (And.intro h5 (HW4.out.adds.trans hA5)); clear h5 hO5 hA5 H5)
            | (go_at_call 13; refine (HOp.out w5 _ q5 HD5.out.1 HD5.out.2).mono ?_; rintro e w6 ⟨o6, rfl, H6⟩; have A6 := hid (HD5.out.2.trans H6.out.2))
            | (go_at_call 14; refine (m_late H6.out.1 HOk.out 0 n y.ns HLt.out HM.out.2.2.2.2 _ HBE.out).mono ?_; rintro e w7 ⟨a7, c7, rfl, H7⟩; have A7 := hid (A6.out.trans H7.out.2))
            | (go_at_call 20; refine (same10 a7 y.a c7 y.cap n n y.ns y.ns w7 HM.out.2.2.2.2 HM.out.2.2.2.2 H7.out.1 (HM.out.2.2.2.1.adds A7.out) ⟨HLn.out, HLn.out⟩ true (by simp)).mono ?_; rintro e w8 ⟨rfl, hA8⟩; have A8 := hid (A7.out.trans hA8); clear hA8))
          go_ret
          exact ⟨rfl, HAb.out.trans A8.out⟩
        · have HBE := hid (show decide (0 < E) = true by simpa using hE0)
          have hE3 : ¬ E = 0 := by omega
          have hE4 : (0 : Int) < (E : Int) := by omega
          have hE5 : decide ((0 : Int) < (E : Int)) = true := by simpa using hE4
          have hE6 : decide (0 < E) = true := HBE.out
          go_wp2_with (first
            | (go_at_call 19; refine HLo2.out.mono ?_; rintro e w5 ⟨q5, rfl, H5⟩; obtain ⟨OD5, h5, hO5, hA5⟩ := H5.out; have HD5 := hid (And.intro h5 (HW4.out.adds.trans hA5)); clear h5 hO5 hA5 H5)
            | (go_at_call 13; refine (HOp.out w5 _ q5 HD5.out.1 HD5.out.2).mono ?_; rintro e w6 ⟨o6, rfl, H6⟩; have A6 := hid (HD5.out.2.trans H6.out.2))
            | (go_at_call 14; refine (m_late H6.out.1 HOk.out E n y.ns HLt.out HM.out.2.2.2.2 _ HBE.out).mono ?_; rintro e w7 ⟨a7, c7, rfl, H7⟩; have A7 := hid (A6.out.trans H7.out.2))
            | (go_at_call 20; refine (same10 a7 y.a c7 y.cap n n y.ns y.ns w7 HM.out.2.2.2.2 HM.out.2.2.2.2 H7.out.1 (HM.out.2.2.2.1.adds A7.out) ⟨HLn.out, HLn.out⟩ true (by simp)).mono ?_; rintro e w8 ⟨rfl, hA8⟩; have A8 := hid (A7.out.trans hA8); clear hA8))
          go_ret
          exact ⟨rfl, HAb.out.trans A8.out⟩
    · have hv2 : (0 ≤ tn ∧ tn < D'.W.length) ∧ (at_ < 0 ∨ 256 < at_) := by
        by_cases h1 : 0 ≤ tn ∧ tn < D'.W.length
        · exact ⟨h1, by
            by_cases h2 : 0 ≤ at_ ∧ at_ ≤ 256
            · exact absurd (fun _ => h2) hval
            · omega⟩
        · exact absurd (fun c => absurd c h1) hval
      have HLb2 := hid (HLb.out w4 OD4 HW4.out.disk hv2.1 hv2.2)
      clear hval hv2 HLo HLb
      go_wp2_with (first
        | (go_at_call 19; refine HLb2.out.mono ?_; rintro e w5 ⟨rfl, hA5⟩; have A5 := hid hA5; clear hA5))
      go_ret
      exact ⟨rfl, HAb.out.trans (HW4.out.adds.trans A5.out)⟩
end Go.Proofs.YtmmgfankbabfbaaDoor
