/- What is saved is told, and the slots take turns. -/
import Derived.Test.YtmmgfankbabfbaaDoorQ29
import Derived.Test.YtmmgfankbabfbaaDoorQ32
import Derived.Deep.DeepCutAuto
namespace Go.Proofs.YtmmgfankbabfbaaDoor
open Go.RowKit
/-- A master of the law: on its disk of three sectors. -/
structure Mo (s : U.MS) (D : dSt) (n : Nat) : Prop where
  on : On s D
  ok : DOk D n
  size : D.size = 3
  at_ : s.at_ = 1
theorem Mo.two {s : U.MS} {D : dSt} {n k : Nat} {ns : List Nat} (h : Mo s D n) (h0 : s.lat.ep < k) (h1 : k ≤ 1000000000) (hF : U.Fit ns) : Mo (s.put s.other ⟨k, ns⟩) (on2 s ns k D) (n + 2) :=
  ⟨on_two h.on h0 h1 hF, by
    have q := goW_ok (f := fun _ => savW s ns k) (r := 1) (i := 0) h.ok
    rw [show goW (fun _ => savW s ns k) 1 0 D = (0, on2 s ns k D) from goW_all (.inl h.on.left)] at q
    exact q, h.size, by rw [(put_lat h0).2.2]; exact h.at_⟩
theorem mo_new : Mo ms0 (dSt.new 3) 0 := ⟨on_new, dnew_okU 3 0 (by decide), rfl, rfl⟩
theorem t_any {w0 w : World} {OM OD Q : Nat → Prop} {m p n0 : Nat} {s : U.MS} {D : dSt} (h : Ml w0 w OM OD m p s D) (ho : Mo s D n0) (hn0 : n0 ≤ 700) (hT : Tab w0) (x : NPart) (hq : NQ w Q x) (hQ : ∀ k, Q k → ¬ OD k) (hlt : ∀ n ∈ x.ns, n < 18446744073709551616) (n : Nat) (hn : x.ns.length = n) (e : Int) :
    Calls Tryd.prog 16 #[Ptr m, .slice x.a n x.cap, .int .i64 e] w (PMl w0 w OM OD m p (savM s x.ns e D) (savD s x.ns e D) (.int .i64 (savE s x.ns e D))) :=
  ml_save h ho.on.ok ho.ok (by omega) (by rw [ho.at_, ho.size]; decide) (by rw [ho.size]; decide) hT x.a n x.cap x.ns hn hlt hq hQ e
set_option maxRecDepth 100000 in
theorem t_save {w0 w : World} {OM OD Q : Nat → Prop} {m p n0 : Nat} {s : U.MS} {D : dSt} (h : Ml w0 w OM OD m p s D) (ho : Mo s D n0) (hn0 : n0 ≤ 700) (hT : Tab w0) (x : NPart) (hq : NQ w Q x) (hQ : ∀ k, Q k → ¬ OD k) (hlt : ∀ n ∈ x.ns, n < 18446744073709551616) (n : Nat) (hn : x.ns.length = n) (E : Nat) (hE : s.lat.ep < E) (hE2 : E ≤ 1000000000) (hl : n ≤ 20) :
    Calls Tryd.prog 16 #[Ptr m, .slice x.a n x.cap, .int .i64 (E : Int)] w (PMl w0 w OM OD m p (s.put s.other ⟨E, x.ns⟩) (on2 s x.ns E D) (.int .i64 0)) := by
  have q := t_any h ho hn0 hT x hq hQ hlt n hn (E : Int)
  obtain ⟨e1, e2, e3⟩ := on_save ho.on hE hE2 (ns := x.ns) ⟨by omega, hlt⟩
  rw [e1, e2, e3] at q
  exact q
set_option maxRecDepth 100000 in
theorem t_long {w0 w : World} {OM OD Q : Nat → Prop} {m p n0 : Nat} {s : U.MS} {D : dSt} (h : Ml w0 w OM OD m p s D) (ho : Mo s D n0) (hn0 : n0 ≤ 700) (hT : Tab w0) (x : NPart) (hq : NQ w Q x) (hQ : ∀ k, Q k → ¬ OD k) (hlt : ∀ n ∈ x.ns, n < 18446744073709551616) (n : Nat) (hn : x.ns.length = n) (E : Nat) (hE : s.lat.ep < E) (hE2 : E ≤ 1000000000) (hl : 20 < n) :
    Calls Tryd.prog 16 #[Ptr m, .slice x.a n x.cap, .int .i64 (E : Int)] w (PMl w0 w OM OD m p s D (.int .i64 3)) := by
  have q := t_any h ho hn0 hT x hq hQ hlt n hn (E : Int)
  obtain ⟨e1, e2, e3⟩ := save_long (s := s) (D := D) hE hE2 (ns := x.ns) (by omega)
  rw [e1, e2, e3] at q
  exact q
set_option maxRecDepth 100000 in
theorem t_old {w0 w : World} {OM OD Q : Nat → Prop} {m p n0 : Nat} {s : U.MS} {D : dSt} (h : Ml w0 w OM OD m p s D) (ho : Mo s D n0) (hn0 : n0 ≤ 700) (hT : Tab w0) (x : NPart) (hq : NQ w Q x) (hQ : ∀ k, Q k → ¬ OD k) (hlt : ∀ n ∈ x.ns, n < 18446744073709551616) (n : Nat) (hn : x.ns.length = n) (E : Nat) (hE : E ≤ s.lat.ep) :
    Calls Tryd.prog 16 #[Ptr m, .slice x.a n x.cap, .int .i64 (E : Int)] w (PMl w0 w OM OD m p s D (.int .i64 2)) := by
  have q := t_any h ho hn0 hT x hq hQ hlt n hn (E : Int)
  obtain ⟨e1, e2, e3⟩ := save_old (s := s) (D := D) (k := (E : Int)) (ns := x.ns) (by omega)
  rw [e1, e2, e3] at q
  exact q
set_option maxRecDepth 100000 in
theorem t_open {w0 w : World} {OM OD : Nat → Prop} {m p n0 : Nat} {s : U.MS} {D : dSt} (h : Ml w0 w OM OD m p s D) (ho : Mo s D n0) (hn0 : n0 ≤ 700) (hT : Tab w0) : Calls Tryd.prog 13 #[Ptr p, .int .i64 1] w (PMas w p s) := by
  have q := mopen_ok h.disk ho.ok (by omega) (h.tab hT) 1 (by rw [ho.size]; decide) (by rw [ho.size]; decide) (by rw [ho.on.left]; decide)
  have e := ho.on.open_
  rw [ho.at_] at e
  rw [e] at q
  exact q
set_option maxRecDepth 100000 in
/-- What is told of an opened master. -/
theorem m_slot {w : World} {O : Nat → Prop} {m p : Nat} {s : U.MS} (h : IsMas w O m p s) (z : Int) (hz : s.which = z) : Calls Tryd.prog 15 #[Ptr m] w (Adding (.int .i64 z) w) := by
  obtain ⟨_, _, q⟩ := h
  rw [← hz]
  exact mslot_any q
set_option maxRecDepth 100000 in
theorem m_late {w : World} {O : Nat → Prop} {m p : Nat} {s : U.MS} (h : IsMas w O m p s) (hk : s.Ok) (E n : Nat) (ns : List Nat) (hl : s.lat = ⟨E, ns⟩) (hn : ns.length = n) (b : Bool) (hb : decide (0 < E) = b) : Calls Tryd.prog 14 #[Ptr m] w (fun e w' => ∃ a cap, e = .returned (.tuple #[.slice a n cap, .int .i64 (E : Int), .bool b]) ∧ Hid (NQ w' (fun k => w.heap.size ≤ k) ⟨a, cap, ns⟩ ∧ Adds w w')) := by
  obtain ⟨_, _, q⟩ := h
  have r := mlatest_any q hk
  rw [hl] at r
  subst hb
  subst hn
  exact r
set_option maxRecDepth 100000 in
theorem rem_wrap (z : Int) : ∃ r : Nat, r < 1000 ∧ wrap64 ((IntKind.u64.wrap z).tmod 1000) = (r : Int) := by
  refine ⟨(z % 18446744073709551616).toNat % 1000, Nat.mod_lt _ (by decide), ?_⟩
  rw [IntKind.wrap_u64]
  have h0 : 0 ≤ z % 18446744073709551616 := Int.emod_nonneg _ (by decide)
  rw [Int.tmod_eq_emod_of_nonneg h0]
  unfold wrap64
  omega
set_option maxRecDepth 100000 in
theorem other_next {s : U.MS} {k t : Nat} {ns : List Nat} (h0 : s.lat.ep < k) (ht : s.other = t) : (s.put s.other ⟨k, ns⟩).other = 1 - t := by
  have h := (put_lat (ns := ns) h0).2.1
  have h2 := other_lt s
  unfold U.MS.other at *
  rw [h]
  rcases (show t = 0 ∨ t = 1 by omega) with rfl | rfl
  · rw [ht]; rfl
  · rw [ht]; rfl
/-- Where the law is. -/
def TS (w0 w : World) (m p : Nat) (n E t : Nat) : Prop := ∃ OM OD s D, Ml w0 w OM OD m p s D ∧ Mo s D n ∧ s.lat.ep = E ∧ s.other = t
set_option maxRecDepth 100000 in
set_option maxHeartbeats 8000000 in
theorem turns10 (a1 a2 : Option Addr) (len1 cap1 len2 cap2 : Nat) (xs : List NPart) (w : World) (hT : Tab w) (hX : NsAt w a1 len1 xs) (hl1 : len1 ≤ 9223372036854775807) (hI : IsAt w a2 len2) :
    Calls Tryd.prog 6 #[.slice a1 len1 cap1, .slice a2 len2 cap2] w (Adding (.bool true) w) := by
  have HB := hid (opened_any w hT)
  have HW := hid (fun w' (hA : Adds w w') => works10 w' (hT.adds hA))
  have HT := hid hT
  have HX := hid hX
  have HI := hid hI
  clear hT hX hI
  go_enter Tryd.func6, Tryd.ntmps6
  go_wp2_with (first
    | (go_at_call 17; refine HB.out.mono ?_; rintro e w1 ⟨m, p, rfl, H1⟩; obtain ⟨OM1, OD1, h1⟩ := H1.out; have HW1 := hid h1; clear h1 H1)
    | (go_at_call 9; refine (HW.out w1 HW1.out.adds).mono ?_; rintro e w2 ⟨rfl, hA2⟩; have HW2 := hid (HW1.out.add hA2); clear hA2))
  go_loopw [7, 8, 9] (fun ev tv iv wr => ∃ (k E t : Nat), k ≤ 8 ∧ k ≤ len1 ∧ E ≤ 1000 * k ∧ t ≤ 1 ∧ ev = .int .i64 (E : Int) ∧ tv = .int .i64 (t : Int) ∧ iv = .int .i64 (k : Int) ∧ Hid (TS w wr m p (2 * k) E t)) (fun _ _ iv _ => 8 - (intOf iv).toNat)
  case atStart => exact ⟨0, 0, 0, Nat.zero_le _, Nat.zero_le _, Nat.zero_le _, Nat.zero_le _, rfl, rfl, rfl, OM1, OD1, ms0, dSt.new 3, HW2.out, mo_new, rfl, rfl⟩
  case round =>
    obtain ⟨k, E, t, hk8, hk1, hE, ht, rfl, rfl, rfl, HR⟩ := hrel
    by_cases hlt : k < len1
    · by_cases h8 : k < 8
      · obtain ⟨x, hx⟩ : ∃ x, xs[k]? = some x := ⟨_, List.getElem?_eq_getElem (by rw [HX.out.1]; exact hlt)⟩
        obtain ⟨b, o, rfl, hbl, hc, hq, hlt2, hxl⟩ := HX.out.2 k x hx
        have HQ := hid (And.intro hbl (And.intro hq hlt2))
        obtain ⟨n, hn⟩ : ∃ n, n = x.ns.length := ⟨_, rfl⟩
        rw [← hn] at hc hxl
        have HN := hid hn
        obtain ⟨OM, OD, s, D, hMl, hMo, hlat, hoth⟩ := HR.out
        have HM := hid (And.intro hMl (And.intro hMo (And.intro hlat hoth)))
        have HC := hid (fun w' (hA : Adds w w') => below_adds hA hc)
        have hc0 := HC.out wr hMl.adds
        have HI2 := hid (fun j (hj : j < len2) => by
          obtain ⟨b2, o2, z, e2, c2⟩ := HI.out j hj
          exact (⟨b2, o2, z, e2, below_adds hMl.adds c2⟩ : ∃ b2 o2 z, a2 = some ⟨b2, o2, none⟩ ∧ wr.cell? ⟨b2, o2 + j, none⟩ = some (.int .i64 z)))
        clear hx hbl hc hq hlt2 hn hMl hMo hlat hoth HX
        go_upto_if 41 with fail
        go_cut [7, 8, 9] (fun t7 t8 t9 wx => t8 = .int .i64 (t : Int) ∧ t9 = .int .i64 (k : Int) ∧ wx = wr ∧ ∃ E2 : Nat, E < E2 ∧ E2 ≤ E + 1000 ∧ t7 = .int .i64 (E2 : Int))
        case first =>
          by_cases hs : k < len2
          · obtain ⟨b2, o2, z, rfl, c2⟩ := HI2.out k hs
            obtain ⟨r, hr, hrw⟩ := rem_wrap z
            go_wp2_with fail
            go_meet
            exact ⟨rfl, rfl, rfl, E + 1 + r, by omega, by omega, by go_num⟩
          · go_wp2_with fail
            go_meet
            exact ⟨rfl, rfl, rfl, E + 1, by omega, by omega, by go_num⟩
        case rest =>
          obtain ⟨rfl, rfl, hwc, E2, hE2, hE3, rfl⟩ := hcut
          rw [hwc]
          clear hwc HI2
          have HQr := hid (show NQ wr (fun j => j < w.heap.size) x from HQ.out.2.1.adds HM.out.1.adds)
          have HQn := hid (show ∀ (O' : Nat → Prop), (∀ j, O' j → w.heap.size ≤ j) → ∀ j, j < w.heap.size → ¬ O' j from fun O' hlow j hj c => absurd (hlow j c) (by omega))
          by_cases hl : 20 < n
          · have HS := hid (t_long HM.out.1 HM.out.2.1 (by omega) HT.out x HQr.out (HQn.out OD (fun j c => HM.out.1.low j (.inr c))) HQ.out.2.2 n HN.out.symm E2 (by rw [HM.out.2.2.1]; exact hE2) (by omega) hl)
            have hl2' : (20 : Int) < (n : Int) := by omega
            clear hl
            go_wp2_with (first
              | (go_at_call 16; refine HS.out.mono ?_; rintro e w3 ⟨rfl, H3⟩; obtain ⟨OM3, OD3, h3, _, _⟩ := H3.out; have HW3 := hid h3; have c3 := HC.out w3 h3.adds; clear h3 H3))
            go_ret
            exact ⟨rfl, HW3.out.adds⟩
          · have HS := hid (t_save HM.out.1 HM.out.2.1 (by omega) HT.out x HQr.out (HQn.out OD (fun j c => HM.out.1.low j (.inr c))) HQ.out.2.2 n HN.out.symm E2 (by rw [HM.out.2.2.1]; exact hE2) (by omega) (by omega))
            have hlE : s.lat.ep < E2 := by rw [HM.out.2.2.1]; exact hE2
            have HP := hid (put_lat (ns := x.ns) hlE)
            have MO := hid (HM.out.2.1.two (ns := x.ns) hlE (by omega) ⟨by rw [← HN.out]; omega, HQ.out.2.2⟩)
            have ON := hid (other_next (ns := x.ns) hlE HM.out.2.2.2)
            have WH := hid (show (s.put s.other ⟨E2, x.ns⟩).which = (t : Int) by rw [HP.out.2.1, HM.out.2.2.2])
            have hE0 : decide (0 < E2) = true := by simp; omega
            have HE0 := hid hE0
            have HXL := hid (show x.ns.length ≤ 1000000 by rw [← HN.out]; omega)
            generalize s.put s.other ⟨E2, x.ns⟩ = s3 at *
            generalize on2 s x.ns E2 D = D3 at *
            clear hl hlE hE0
            go_wp2_with (first
              | (go_at_call 13; refine (t_open HW3.out MO.out (by omega) HT.out).mono ?_; rintro e w4 ⟨o4, rfl, H4⟩; have HW4 := hid (HW3.out.add H4.out.2); have HO4 := hid H4.out.1)
              | (go_at_call 15; refine (m_slot HO5.out (t : Int) WH.out).mono ?_; rintro e w6 ⟨rfl, hA6⟩; have HW6 := hid (HW5.out.add hA6); have HO6 := hid (HO5.out.adds hA6); clear hA6)
              | (go_at_call 15; refine (m_slot HW4.out.mas (t : Int) WH.out).mono ?_; rintro e w5 ⟨rfl, hA5⟩; have HW5 := hid (HW4.out.add hA5); have HO5 := hid (HO4.out.adds hA5); clear hA5)
              | (go_at_call 14; refine (m_late HO6.out MO.out.on.ok E2 n x.ns HP.out.1 HN.out.symm true HE0.out).mono ?_; rintro e w7 ⟨a7, c7, rfl, H7⟩; have HW7 := hid (HW6.out.add H7.out.2); have d7 := HC.out w7 HW7.out.adds)
              | (go_at_call 20; refine (same10 a7 x.a c7 x.cap n n x.ns x.ns w7 HN.out.symm HN.out.symm H7.out.1 (HQ.out.2.1.adds HW7.out.adds) ⟨by rw [HN.out]; exact HXL.out, by rw [HN.out]; exact HXL.out⟩ true (by simp)).mono ?_; rintro e w8 ⟨rfl, hA8⟩; have HW8 := hid (HW7.out.add hA8); have d8 := HC.out w8 HW8.out.adds; clear hA8)
              | (go_at_call 16; refine (t_old HW8.out MO.out (by omega) HT.out x (HQ.out.2.1.adds HW8.out.adds) (HQn.out _ (fun j c => HW8.out.low j (.inr c))) HQ.out.2.2 n HN.out.symm E2 (by rw [HP.out.1]; exact Nat.le_refl _)).mono ?_; rintro e w9 ⟨rfl, H9⟩; obtain ⟨OM9, OD9, h9, _, _⟩ := H9.out; have HW9 := hid h9; clear h9 H9)
              | (go_at_call 16; refine HS.out.mono ?_; rintro e w3 ⟨rfl, H3⟩; obtain ⟨OM3, OD3, h3, _, _⟩ := H3.out; have HW3 := hid h3; have c3 := HC.out w3 h3.adds; clear h3 H3))
            go_roundw
            case rel =>
              exact ⟨k + 1, E2, 1 - t, by omega, by omega, by omega, by omega, rfl, by rcases (show t = 0 ∨ t = 1 by omega) with rfl | rfl <;> rfl, by go_num, OM9, OD9, s3, D3, HW9.out, MO.out, by rw [HP.out.1], ON.out⟩
            case measure => simp [intOf]; omega
      · obtain rfl : k = 8 := by omega
        go_wp2_with fail
        go_ret
        obtain ⟨OM, OD, s, D, hMl, _⟩ := HR.out
        exact ⟨rfl, hMl.adds⟩
    · obtain rfl : k = len1 := by omega
      go_wp2_with fail
      go_ret
      obtain ⟨OM, OD, s, D, hMl, _⟩ := HR.out
      exact ⟨rfl, hMl.adds⟩
end Go.Proofs.YtmmgfankbabfbaaDoor
