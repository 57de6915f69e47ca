/- SpacePlays. -/
import Derived.Test.YtjlennpoaefllaaGreatDoorQ41
import Derived.Test.YtjlennpoaefllaaGreatDoorQ43
import Derived.Test.YtjlennpoaefllaaGreatDoorQ45
import Derived.Test.YtjlennpoaefllaaGreatDoorQ46
import Derived.Deep.CutBlock
import Derived.Deep.DeepCutAuto
import Derived.Lib.Builder
namespace Go.Proofs.YtjlennpoaefllaaGreatDoor
open Go.RowKit
set_option maxRecDepth 100000 in
theorem act12_any {w0 w : World} {sp p d q r n k c : Nat} {s : F.Po} {D : dSt} (h : PwE w0 w [(sp, SBox p)] p d q r s s D D n k) (hj : Jz c s) (hc1 : 1 ≤ c) (hc2 : c ≤ 1920) (hn : n + 40 ≤ 1000000) (hk9 : k ≤ 800) (kd no : Int) (fa : Option Addr) (fn fc : Nat) (hno : no ≤ 9223372036854775807) (cs0 : List UInt8) (hbl : cs0.length = fn) (hfc : fn ≤ fc) (hf9 : fn ≤ 9223372036854775807) (hfz : fa = none → fc = 0) (hAt : At w0 fa cs0) :
    Calls Tryz.prog 16 #[.agg #[.int .i64 kd, .int .i64 no, .slice fa fn fc], Ptr d, Ptr r, Ptr sp, Ptr q] w (PA12 w0 sp p d q r c n k D.size) := by
  by_cases hk : kd < 0 ∨ 7 < kd
  · exact act12_other h hj hc1 hc2 hn hk9 no fa fn fc kd hk
  · have h8 : kd = 0 ∨ kd = 1 ∨ kd = 2 ∨ kd = 3 ∨ kd = 4 ∨ kd = 5 ∨ kd = 6 ∨ kd = 7 := by omega
    rcases h8 with rfl | rfl | rfl | rfl | rfl | rfl | rfl | rfl
    · exact act12_alloc h hj hc1 hc2 hn hk9 no fa fn fc
    · exact act12_free h hj hc1 hc2 hn hk9 no fa fn fc
    · exact act12_accept h hj hc1 hc2 hn hk9 no fa fn fc
    · exact act12_drop h hj hc1 hc2 hn hk9 no fa fn fc
    · exact act12_flush h hj hc1 hc2 hn hk9 no fa fn fc
    · exact act12_cut h hj hc1 hc2 hn hk9 no fa fn fc hno
    · by_cases h5 : no.tmod 5 = 4
      · exact act12_page h hj hc1 hc2 hn hk9 no fa fn fc 3 (.inl ⟨h5, rfl⟩) cs0 hbl hfc hf9 hfz hAt
      · exact act12_page h hj hc1 hc2 hn hk9 no fa fn fc 2 (.inr ⟨h5, rfl⟩) cs0 hbl hfc hf9 hfz hAt
    · exact act12_open h hj hc1 hc2 hn hk9 no fa fn fc
set_option maxRecDepth 100000 in
theorem jz0 {c m : Nat} (hm : m ≤ 256) : Jz c (S0 c m) := by
  refine ⟨fun f hf _ => ?_, rfl, by show (m : Int) ≤ 256; omega, fun f hf => ?_⟩
  · obtain rfl := List.mem_singleton.1 (show f ∈ [_] from hf)
    rfl
  · obtain rfl := List.mem_singleton.1 (show f ∈ [_] from hf)
    rfl
set_option maxRecDepth 100000 in
theorem ne_pool12 (l : Nat) (w : World) : (binOp .neq 31 (.pointer (some ⟨l, 0, none⟩)) (Ptr l)).run Tryz.prog w = .ok (.bool false) w := by
  obtain ⟨j, hj⟩ := Option.isSome_iff_exists.1 (show (Tryz.prog.info? 89).isSome = true by kernel_rfl)
  exact Go.Lib.run_neq_ptr_same w ⟨l, 0, none⟩ Tryz.underlying31 hj
set_option maxRecDepth 100000 in
set_option maxHeartbeats 2000000 in
theorem plays12_no (n fr : Int) (a : Option Addr) (len cap : Nat) (w : World) (hT : Tab w) (h : n < 1 ∨ 40 < n) : Calls Tryz.prog 3 #[.int .i64 n, .int .i64 fr, .slice a len cap] w (Adding (.bool true) w) := by
  have HW := hid (works12 w hT)
  by_cases h1 : n < 1
  · have d1 : decide (n < 1) = true := by simp; omega
    clear h hT
    go_enter Tryz.func3, Tryz.ntmps3
    go_wp2_with (go_at_call 8; refine HW.out.mono ?_; rintro e w3 ⟨rfl, hA3⟩; have HA3 := hid hA3; clear hA3)
    go_ret
    exact ⟨rfl, HA3.out⟩
  · have h2 : 40 < n := by omega
    have d1 : decide (n < 1) = false := by simp; omega
    have d2 : decide (40 < n) = true := by simp; omega
    clear h hT
    go_enter Tryz.func3, Tryz.ntmps3
    go_wp2_with (go_at_call 8; refine HW.out.mono ?_; rintro e w3 ⟨rfl, hA3⟩; have HA3 := hid hA3; clear hA3)
    go_ret
    exact ⟨rfl, HA3.out⟩
set_option maxRecDepth 100000 in
set_option maxHeartbeats 2000000 in
theorem plays12_bad (c : Nat) (fr : Int) (a : Option Addr) (len cap : Nat) (w : World) (hT : Tab w) (hc : 1 ≤ c) (hc2 : c ≤ 40) (hb : F.openOk (dSt.new c) 0 c fr = false) : Calls Tryz.prog 3 #[.int .i64 (c : Int), .int .i64 fr, .slice a len cap] w (Adding (.bool true) w) := by
  have HW := hid (fun w' (hA : Adds w w') => works12 w' (hT.adds hA))
  have HN := hid (new_yes (c : Int) w w.heap.size (Nat.le_refl _) (by omega) (by omega))
  have HR := hid (fun w1 => rnew_yes (c : Int) w1 w1.heap.size (Nat.le_refl _) (by omega) (by omega))
  have HD := hid (dnew_ok11 (c : Int) 0 (by omega))
  have HO := hid (fun (w1 : World) (OD : Nat → Prop) (d : Nat) (hd : IsDO w1 OD d (dSt.new c)) => show Calls Tryz.prog 11 #[Ptr d, .int .i64 0, .int .i64 (c : Int), .int .i64 fr] w1 (Tells (.tuple #[.pointer none, .int .i64 2]) w1) from bopen_bad hd HD.out (by show (c : Int) ≤ 4096; omega) 0 c fr (by decide) hb)
  have HOr := hid (fun (w1 : World) (OR : Nat → Prop) (r : Nat) (hd : IsRO w1 OR r (dSt.new c)) => show Calls Tryz.prog 12 #[Ptr r, .int .i64 0, .int .i64 (c : Int), .int .i64 fr] w1 (Tells (.tuple #[.pointer none, .int .i64 2]) w1) from ropen11_bad hd (by show (0 : Int) < c; omega) (by show (c : Int) ≤ 4096; omega) 0 c fr hb)
  have d1 : decide ((c : Int) < 1) = false := by simp; omega
  have d2 : decide ((40 : Int) < (c : Int)) = false := by simp; omega
  have d3 : ¬ (c : Int) < 1 := by omega
  have d4 : ¬ (40 : Int) < (c : Int) := by omega
  clear hT hb hc hc2
  unfold Ptr at *
  go_enter Tryz.func3, Tryz.ntmps3
  go_upto_region 5 with (first
    | (go_at_call 9; refine HN.out.mono ?_; rintro e w1 ⟨d, hb, rfl, hp, hhb, hd, hA1⟩; have H1 := hid (And.intro hp (And.intro hhb (And.intro hd hA1))); clear hp hhb hd hA1)
    | (go_at_call 10; refine (HR.out w1).mono ?_; rintro e w2 hR2
       obtain ⟨r, he, H2⟩ := ref_lost (show PRLose w1 w1.heap.size (dSt.new c) e w2 from hR2)
       subst he
       clear hR2
       have HPd := hid (pd_new0 H1.out.1 H1.out.2.1 H1.out.2.2.1 H1.out.2.2.2 H2.out)))
  obtain ⟨OD, OR, hpd⟩ := HPd.out
  have HPD := hid hpd
  clear hpd HPd H1 H2
  go_wp2_with (first
    | (go_at_call 11; refine (HO.out w2 OD d HPD.out.dk).mono ?_; rintro e w3 ⟨rfl, hw⟩; rw [hw]; clear hw)
    | (go_at_call 12; refine (HOr.out w2 OR r HPD.out.ro).mono ?_; rintro e w4 ⟨rfl, hw⟩; rw [hw]; clear hw)
    | (go_at_call 8; refine (HW.out w2 HPD.out.base).mono ?_; rintro e w5 ⟨rfl, hA5⟩; have HA5 := hid (HPD.out.base.trans hA5); clear hA5))
  go_ret
  exact ⟨rfl, HA5.out⟩
set_option maxRecDepth 100000 in
set_option maxHeartbeats 4000000 in
theorem plays12_yes (c m : Nat) (a : Option Addr) (len cap : Nat) (w : World) (hT : Tab w) (hI : Acts12 w a len) (hc : 1 ≤ c) (hc40 : c ≤ 40) (hm : 1 ≤ m) (hm2 : m ≤ 256) : Calls Tryz.prog 3 #[.int .i64 (c : Int), .int .i64 (m : Int), .slice a len cap] w (Adding (.bool true) w) := by
  have hc2 : c ≤ 1920 := by omega
  have HW := hid (fun w' (hA : Adds w w') => works12 w' (hT.adds hA))
  have HN := hid (new_yes (c : Int) w w.heap.size (Nat.le_refl _) (by omega) (by omega))
  have HR := hid (fun w1 => rnew_yes (c : Int) w1 w1.heap.size (Nat.le_refl _) (by omega) (by omega))
  have hok : F.openOk (dSt.new c) 0 c m = true := decide_eq_true ⟨by decide, by omega, by omega, by show (0 : Int) + c ≤ c; omega, by omega, by omega⟩
  have HPk := hid (show POk ⟨0, c, m, []⟩ (dSt.new c) from ⟨Int.le_refl _, by show (1 : Int) ≤ c; omega, by show (0 : Int) + c ≤ c; omega, by show (c : Int) ≤ 4096; omega, by show (1 : Int) ≤ m; omega, by show (m : Int) ≤ 256; omega⟩)
  have HD := hid (dnew_ok11 (c : Int) 0 (by omega))
  have HG := hid (good_new 0 c m (by omega))
  have HO := hid (fun (w1 : World) (dp hb : Nat) (hd : IsDisk w1 w.heap.size dp hb (.slice none 0 0) (dSt.new c)) => show Calls Tryz.prog 11 #[Ptr dp, .int .i64 0, .int .i64 (c : Int), .int .i64 (m : Int)] w1 (POpn w1 dp ⟨0, c, m, []⟩) from bopen_ok (OD := fun k => k = dp ∨ k = hb) (k := 0) ⟨hb, _, hd.mono (Nat.zero_le _), .inl rfl, .inr rfl, fun k hk => by cases hk⟩ HD.out (by show (c : Int) ≤ 4096; omega) 0 c m hok)
  have HOr := hid (fun (w1 : World) (OR : Nat → Prop) (r : Nat) (hd : IsRO w1 OR r (dSt.new c)) => show Calls Tryz.prog 12 #[Ptr r, .int .i64 0, .int .i64 (c : Int), .int .i64 (m : Int)] w1 (PROpn w1 r ⟨0, c, m, []⟩) from ropen11_ok hd (by show (0 : Int) < c; omega) (by show (c : Int) ≤ 4096; omega) 0 c m hok)
  have hf1 : F.putE ⟨0, c, m, []⟩ ((0 : Nat) : Int) (G.pg 0 (G.first c 0)) = 0 ∧ F.putS ⟨0, c, m, []⟩ ((0 : Nat) : Int) (G.pg 0 (G.first c 0)) = S0 c m := G.put0 hc hm (by rw [G.len_first]; exact G.cells_le c 0)
  have hf2 := G.format1 (c := c) (mo := m) hc hc2 hm
  have HFp := hid (fun (w3 : World) (p d q r : Nat) (h : PwE w w3 [] p d q r ⟨0, c, m, []⟩ ⟨0, c, m, []⟩ (dSt.new c) (dSt.new c) 0 0) => show Calls Tryz.prog 13 #[Ptr p] w3 (fun e w' => ∃ sp, e = .returned (.tuple #[Ptr sp, .int .i64 0]) ∧ Hid (PwE w w' [(sp, SBox p)] p d q r (S0 c m) ⟨0, c, m, []⟩ (dSt.new c) (dSt.new c) 10 0 ∧ w.heap.size ≤ sp)) by
    obtain ⟨Y, hL, hback⟩ := h.lpx
    have q := sformat_ok hL (by omega) (by rw [hf2])
    rw [hf2] at q
    refine q.mono ?_
    rintro e w' ⟨sp, rfl, H⟩
    refine ⟨sp, rfl, hback w' _ _ _ _ _ H.out.1 (fun x hx => List.mem_cons_of_mem _ (List.mem_append_right _ hx)) _ (fun x hx => ?_), H.out.2.1⟩
    obtain rfl := List.mem_singleton.1 hx
    exact ⟨List.mem_cons_self, fun y hy => H.out.2.2 y (List.mem_append_right _ hy)⟩)
  have HFr := hid (fun (w2 : World) (sp p d q r : Nat) (h : PwE w w2 [(sp, SBox p)] p d q r (S0 c m) ⟨0, c, m, []⟩ (dSt.new c) (dSt.new c) 10 0) => show Calls Tryz.prog 14 #[Ptr q] w2 (PPw w [(sp, SBox p)] p d q r (S0 c m) (S0 c m) (dSt.new c) (dSt.new c) 10 0 (.int .i64 0)) by
    have q := rformatZ h HG.out (by show (m : Int) ≤ 256; omega) (nil0 _ _ _) rfl hc hc2
    rw [hf1.1, hf1.2] at q
    exact q)
  have HSpl := hid (fun (w' : World) (sp p d q r : Nat) (h : PwE w w' [(sp, SBox p)] p d q r (S0 c m) (S0 c m) (dSt.new c) (dSt.new c) 10 0) => show Calls Tryz.prog 15 #[Ptr sp] w' (Tells (Ptr p) w') from spool_any (h.other (sp, SBox p) List.mem_cons_self))
  have HJ0 := hid (jz0 (c := c) hm2)
  have HC := hid (And.intro hc (And.intro hc2 hc40))
  have HI := hid hI
  have HT := hid hT
  have d1 : decide ((c : Int) < 1) = false := by simp; omega
  have d2 : decide ((40 : Int) < (c : Int)) = false := by simp; omega
  have d3 : ¬ (c : Int) < 1 := by omega
  have d4 : ¬ (40 : Int) < (c : Int) := by omega
  have hlen := hI.1
  have hns := eq_space_some
  clear hT hI hok hf1 hf2 hc hc2 hc40 hm hm2
  unfold Ptr at *
  have hpp := ne_pool12
  go_enter Tryz.func3, Tryz.ntmps3
  go_upto_region 9 with (first
    | (go_at_call 9; refine HN.out.mono ?_; rintro e w1 ⟨d, hb, rfl, hp, hhb, hd, hA1⟩; have H1 := hid (And.intro hp (And.intro hhb (And.intro hd hA1))); clear hp hhb hd hA1)
    | (go_at_call 10; refine (HR.out w1).mono ?_; rintro e w2 hR2
       obtain ⟨r, he, H2⟩ := ref_lost (show PRLose w1 w1.heap.size (dSt.new c) e w2 from hR2)
       subst he
       clear hR2
       have HPd := hid (pd_new0 H1.out.1 H1.out.2.1 H1.out.2.2.1 H1.out.2.2.2 H2.out))
    | (go_at_call 11; refine (HO.out w2 d hb (by obtain ⟨OR, _, _, hA2⟩ := H2.out; exact H1.out.2.2.1.adds hA2)).mono ?_; rintro e w3 ⟨p, rfl, H3⟩)
    | (go_at_call 12; obtain ⟨OD, OR, hpd⟩ := HPd.out; have HPD := hid hpd; clear hpd; refine (HOr.out w3 OR r (HPD.out.ro.adds H3.out.2)).mono ?_; rintro e w4 ⟨q, rfl, H4⟩
       have HWl := hid (HPD.out.pools H3.out H4.out HD.out HT.out HG.out HPk.out)))
  go_upto_region 12 with (first
    | (go_at_call 13; refine (HFp.out w4 p d q r HWl.out).mono ?_; rintro e w5 ⟨sp, rfl, H5⟩)
    | (go_at_call 14; refine (HFr.out w5 sp p d q r H5.out.1).mono ?_; rintro e w6 ⟨rfl, H6⟩)
    | (go_at_call 15; refine (HSpl.out w6 sp p d q r H6.out).mono ?_; rintro e w7 ⟨rfl, hw⟩; rw [hw]; clear hw))
  clear HN HR HO HOr HFp HFr HSpl HPd HPD H1 H2 H3 H4 HWl H5 HG HPk HD d1 d2 d3 d4
  go_wp2_with fail
  go_loopw [17] (fun i wr => ∃ k : Nat, k ≤ 40 ∧ i = .int .i64 (k : Int) ∧ Hid (∃ s D, PwE w wr [(sp, SBox p)] p d q r s s D D (10 + 40 * k) (3 * k) ∧ Jz c s ∧ D.size = (c : Int))) (fun i _ => 40 - (intOf i).toNat)
  case atStart => exact ⟨0, Nat.zero_le _, rfl, _, _, H6.out, HJ0.out, rfl⟩
  case round =>
    obtain ⟨k, hk, rfl, HR⟩ := hrel
    obtain ⟨s, D, hP, hJ, hD⟩ := HR.out
    have HAw := hid hP.base
    by_cases hlt : k < len ∧ k < 40
    · have d1 : decide (k < len) = true := by simpa using hlt.1
      have d2 : decide ((k : Int) < 40) = true := by simp; omega
      have d3 : decide (k < 40) = true := by simpa using hlt.2
      have d4 : decide ((k : Int) < (len : Int)) = true := by simp; omega
      obtain ⟨b, o, k0, no, fa, fc, cb, rfl, hra, hfx, hno⟩ := HI.out.2 k hlt.1
      obtain ⟨fn, hfn⟩ : ∃ fn, fn = cb.length := ⟨_, rfl⟩
      rw [← hfn] at hra hfx
      have hrr : Hid (wr.rangeAt b (o + k * 3) (act12C k0 no fa fn fc)) := fun j v hv => below_adds HAw.out (hra j v hv)
      have hi9 : Hid ((Tryz.prog.info? 45).map (·.size) = some (act12C k0 no fa fn fc).length) := infoAct12
      have HDo := hid (show Calls Tryz.prog 16 #[.agg (act12C k0 no fa fn fc).toArray, .pointer (some ⟨d, 0, none⟩), .pointer (some ⟨r, 0, none⟩), .pointer (some ⟨sp, 0, none⟩), .pointer (some ⟨q, 0, none⟩)] wr (PA12 w sp p d q r c (10 + 40 * k) (3 * k) D.size) from act12_any hP hJ HC.out.1 HC.out.2.1 (by omega) (by omega) k0 no fa fn fc hno.2 cb hfn.symm hfx.2.1 hfx.2.2.1 hfx.2.2.2 hfx.1)
      have HSm := hid (fun (w5 : World) (s5 : F.Po) (D5 : dSt) (h5 : PwE w w5 [(sp, SBox p)] p d q r s5 s5 D5 D5 (10 + 40 * k + 20) (3 * k + 3)) (j5 : Jz c s5) (z5 : D5.size = D.size) => show Calls Tryz.prog 17 #[.pointer (some ⟨sp, 0, none⟩), .pointer (some ⟨q, 0, none⟩)] w5 _ from same_any h5 j5.nl j5.ct j5.mo HC.out.1 HC.out.2.1 (by omega) (by omega) (by rw [z5, hD]; have := HC.out.2.1; omega))
      have hlt1 := hlt.1
      have hlt2 := hlt.2
      have HDz := hid hD
      clear hP hJ hra hlt hfx hfn hno hD HR
      go_wp2_with (first
        | (refine wpList_load_mid rfl 45 _ rfl b (o + k * 3) rfl (act12C k0 no fa fn fc) _ hrr.out Tryz.underlying45 rfl hi9.out ?_)
        | (go_at_call 16; refine HDo.out.mono ?_; rintro e w5 ⟨rfl, H5⟩; obtain ⟨s5, D5, h5, j5, z5⟩ := H5.out; have HP5 := hid (And.intro h5 (And.intro j5 z5)); clear h5 j5 z5 H5)
        | (go_at_call 17; refine (HSm.out w5 s5 D5 HP5.out.1 HP5.out.2.1 HP5.out.2.2).mono ?_; rintro e w6 ⟨rfl, H6⟩))
      go_roundw
      case rel => exact ⟨k + 1, by omega, by go_num, _, D5, H6.out.later (by omega) (by omega), HP5.out.2.1.two D5, by rw [HP5.out.2.2, HDz.out]⟩
      case measure => simp [intOf]; omega
    · clear hP hJ hD HR
      by_cases hl : k < len
      · have d1 : decide (k < len) = true := by simpa using hl
        have d4 : decide ((k : Int) < (len : Int)) = true := by simp; omega
        obtain rfl : k = 40 := by omega
        go_wp2_with (first | (go_at_call 8; refine (HW.out wr HAw.out).mono ?_; rintro e w8 ⟨rfl, hA8⟩; have HA8 := hid (HAw.out.trans hA8); clear hA8))
        go_ret
        exact ⟨rfl, HA8.out⟩
      · have d1 : decide (k < len) = false := by simpa using hl
        have d4 : decide ((k : Int) < (len : Int)) = false := by simp; omega
        go_wp2_with (first | (go_at_call 8; refine (HW.out wr HAw.out).mono ?_; rintro e w8 ⟨rfl, hA8⟩; have HA8 := hid (HAw.out.trans hA8); clear hA8))
        go_ret
        exact ⟨rfl, HA8.out⟩
set_option maxRecDepth 100000 in
theorem plays12 (n fr : Int) (a : Option Addr) (len cap : Nat) (w : World) (hT : Tab w) (hI : Acts12 w a len) : Calls Tryz.prog 3 #[.int .i64 n, .int .i64 fr, .slice a len cap] w (Adding (.bool true) w) := by
  by_cases h : n < 1 ∨ 40 < n
  · exact plays12_no n fr a len cap w hT h
  · obtain ⟨c, rfl⟩ : ∃ c : Nat, n = (c : Int) := ⟨n.toNat, by omega⟩
    cases hb : F.openOk (dSt.new c) 0 c fr with
    | false => exact plays12_bad c fr a len cap w hT (by omega) (by omega) hb
    | true =>
      have hb' : 0 ≤ (0 : Int) ∧ 1 ≤ (c : Int) ∧ (c : Int) ≤ 4096 ∧ 0 + (c : Int) ≤ (dSt.new c).size ∧ 1 ≤ fr ∧ fr ≤ 256 := of_decide_eq_true hb
      obtain ⟨m, rfl⟩ : ∃ m : Nat, fr = (m : Int) := ⟨fr.toNat, by omega⟩
      exact plays12_yes c m a len cap w hT hI (by omega) (by omega) (by omega) (by omega)
end Go.Proofs.YtjlennpoaefllaaGreatDoor
