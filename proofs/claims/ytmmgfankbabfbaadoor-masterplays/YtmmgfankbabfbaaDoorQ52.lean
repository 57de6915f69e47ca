/- MasterPlays. -/
import Derived.Test.YtmmgfankbabfbaaDoorQ50
import Derived.Test.YtmmgfankbabfbaaDoorQ51
import Derived.Test.YtmmgfankbabfbaaDoorQ29
import Derived.Deep.CutBlock
import Derived.Deep.DeepCutAuto
namespace Go.Proofs.YtmmgfankbabfbaaDoor
open Go.RowKit
set_option maxRecDepth 100000 in
theorem does10_any {w0 w : World} {pp l d q r n0 : Nat} {L : U.MS} {D : dSt} (h : MwE w0 w [(pp, PB10 d r (Ptr l) (Ptr q))] l d q r L L D D) (hpp : w0.heap.size ≤ pp) (hf : Fit10 L D n0) (hn0 : n0 ≤ 700) (hT : Tab w0) (k n p : Int) (fa : Option Addr) (fn fc : Nat) (ns : List Nat) (hns : ns.length = fn) (hfc : fn ≤ fc) (hfl : fn ≤ 9223372036854775807) (hF : ∀ k ∈ ns, k < 18446744073709551616) (hq : NQ w0 (fun k => k < w0.heap.size) ⟨fa, fc, ns⟩) (c : UInt8) (ka : Option Addr) (kn kc : Nat) (torn at_ : Int) (hn64 : n ≤ 9223372036854775807) (ks : List Bool) (hks : KeptAt w0 ka ks) (hkn : ks.length = kn) (hk64 : kn ≤ 9223372036854775807) :
    Calls Tryd.prog 11 #[Ptr pp, .agg (act10 k n p fa fn fc c ka kn kc torn at_)] w (PDo10 w0 pp (n0 + 11)) := by
  by_cases hk : k < 0 ∨ 3 < k
  · exact does10_other h hpp hf hn0 hT k hk n p fa fn fc ns hns hfc hfl hF hq c ka kn kc torn at_
  · have h8 : k = 0 ∨ k = 1 ∨ k = 2 ∨ k = 3 := by omega
    rcases h8 with rfl | rfl | rfl | rfl
    · exact does10_save h hpp hf hn0 hT n p fa fn fc ns hns hfc hfl hF hq c ka kn kc torn at_
    · exact does10_cut h hpp hf hn0 hT n p fa fn fc ns hns hfc hfl hF hq c ka kn kc torn at_ hn64
    · by_cases ht : (0 ≤ torn ∧ torn < (D.W.length : Int)) ∧ (at_ < 0 ∨ 256 < at_)
      · exact does10_lose_bad h hpp hf hn0 hT n p fa fn fc ns hns hfc hfl hF hq c ka kn kc torn at_ ht.1 ht.2
      · exact does10_lose_ok h hpp hf hn0 hT n p fa fn fc ns hns hfc hfl hF hq c ka kn kc torn at_ ks hks hkn hk64 (fun c => by omega)
    · exact does10_spoil h hpp hf hn0 hT n p fa fn fc ns hns hfc hfl hF hq c ka kn kc torn at_
set_option maxRecDepth 100000 in
theorem build_pair10 (d r : Nat) (w : World) : (Instr.build 35 #[(0, Ptr d), (1, Ptr r)]).run Tryd.prog w = .ok (.agg #[Ptr d, Ptr r, .pointer none, .pointer none]) w := by kernel_rfl
set_option maxRecDepth 100000 in
theorem ne_mas_none (w : World) : (binOp .neq 32 (.pointer none) (.pointer none)).run Tryd.prog w = .ok (.bool false) w := by kernel_rfl
set_option maxRecDepth 100000 in
theorem ne_mas_some (l : Nat) (w : World) : (binOp .neq 32 (Ptr l) (.pointer none)).run Tryd.prog w = .ok (.bool true) w := by kernel_rfl
set_option maxRecDepth 100000 in
theorem plays10_no (n at_ : Int) (a : Option Addr) (len cap : Nat) (w : World) (hT : Tab w) (h : n < 1 ∨ 6 < n) : Calls Tryd.prog 3 #[.int .i64 n, .int .i64 at_, .slice a len cap] w (Adding (.bool true) w) := by
  have HW := hid (fun w' (hA : Adds w w') => works10 w' (hT.adds hA))
  by_cases hb : n < 1 ∨ 4096 < n
  · have HN := hid (new_no n w hb)
    have HR := hid (rnew_no n w hb)
    clear hT h hb
    go_enter Tryd.func3, Tryd.ntmps3
    go_wp2_with (first
      | (go_at_call 7; refine HN.out.mono ?_; rintro e _ ⟨rfl, hw⟩; rw [hw]; clear hw)
      | (go_at_call 8; refine HR.out.mono ?_; rintro e _ ⟨rfl, hw⟩; rw [hw]; clear hw)
      | (go_at_call 9; refine (HW.out w (Touch.refl _ w)).mono ?_; rintro e w3 ⟨rfl, hA3⟩; have HA3 := hid hA3; clear hA3))
    go_ret
    exact ⟨rfl, HA3.out⟩
  · have HN := hid (new_yes n w w.heap.size (Nat.le_refl _) (by omega) (by omega))
    have HR := hid (fun w1 => rnew_yes n w1 w1.heap.size (Nat.le_refl _) (by omega) (by omega))
    have h10 : decide ((6 : Int) < n) = true := by simp; omega
    clear hT h hb
    go_enter Tryd.func3, Tryd.ntmps3
    go_wp2_with (first
      | (go_at_call 7; refine HN.out.mono ?_; rintro e w1 ⟨p, hb, rfl, _, _, _, hA1⟩; have HA1 := hid hA1; clear hA1)
      | (go_at_call 8; refine (HR.out w1).mono ?_; rintro e w2 ⟨r, hv, rfl, _, _, hA2⟩; have HA2 := hid (HA1.out.trans hA2); clear hA2)
      | (go_at_call 9; refine (HW.out w2 HA2.out).mono ?_; rintro e w3 ⟨rfl, hA3⟩; have HA3 := hid (HA2.out.trans hA3); clear hA3))
    go_ret
    exact ⟨rfl, HA3.out⟩
/-- Where the law is, behind k acts: a pair that is alike, or none was opened. -/
def Lp10 (w wr : World) (pp d r k : Nat) : Prop := (∃ l d q r L D, MwE w wr [(pp, PB10 d r (Ptr l) (Ptr q))] l d q r L L D D ∧ Fit10 L D (11 * k)) ∨ (wr.heap[pp]? = some (PB10 d r (.pointer none) (.pointer none)) ∧ Adds w wr)
set_option maxRecDepth 100000 in
theorem Lp10.base {w wr : World} {pp d r k : Nat} (h : Lp10 w wr pp d r k) : Adds w wr := by
  rcases h with ⟨l, d, q, r, L, D, h, _⟩ | ⟨_, h⟩
  · exact h.base
  · exact h
set_option maxRecDepth 100000 in
set_option maxHeartbeats 4000000 in
theorem plays10_yes (n at_ : Int) (a : Option Addr) (len cap : Nat) (w : World) (hT : Tab w) (hI : Acts10 w a len) (h : 1 ≤ n ∧ n ≤ 6) : Calls Tryd.prog 3 #[.int .i64 n, .int .i64 at_, .slice a len cap] w (Adding (.bool true) w) := by
  have HW := hid (fun w' (hA : Adds w w') => works10 w' (hT.adds hA))
  have HN := hid (new_yes n w w.heap.size (Nat.le_refl _) (by omega) (by omega))
  have HR := hid (fun w1 => rnew_yes n w1 w1.heap.size (Nat.le_refl _) (by omega) (by omega))
  have h10 : decide ((6 : Int) < n) = false := by simp; omega
  have HI := hid hI
  have HT := hid hT
  have HN10 := hid h
  have hbp := build_pair10
  have hlen := hI.1
  clear hT hI h
  go_enter Tryd.func3, Tryd.ntmps3
  go_upto_region 6 with (first
    | (go_at_call 7; refine HN.out.mono ?_; rintro e w1 ⟨d, hb, rfl, hp, hhb, hd, hA1⟩; have H1 := hid (And.intro hp (And.intro hhb (And.intro hd hA1))); clear hp hhb hd hA1)
    | (go_at_call 8; refine (HR.out w1).mono ?_; rintro e w2 hR2
       obtain ⟨r, he, H2⟩ := ref_lost (show PRLose w1 w1.heap.size (dSt.new n) e w2 from hR2)
       subst he
       clear hR2))
  obtain ⟨pp, hpp⟩ : ∃ pp, pp = w2.heap.size := ⟨_, rfl⟩
  obtain ⟨w3, hw3⟩ : ∃ w3, w3 = w2.alloc (PB10 d r (.pointer none) (.pointer none)) := ⟨_, rfl⟩
  have HPd := hid (show PdE w w3 [(pp, PB10 d r (.pointer none) (.pointer none))] d r (dSt.new n) (dSt.new n) by rw [hw3, hpp]; exact pd_new10 H1.out.1 H1.out.2.1 H1.out.2.2.1 H1.out.2.2.2 H2.out _)
  have HPP := hid (show w.heap.size ≤ pp by rw [hpp]; obtain ⟨_, _, _, hA⟩ := H2.out; have := H1.out.2.2.2.size; have := hA.size; omega)
  rw [← hpp, ← hw3]
  clear hpp hw3
  have HO := hid (p10_open HPd.out HPP.out (fun x hx => (by cases hx)) (dnew_okU n 0 (by have := HN10.out; omega)) (by omega) (show (dSt.new n).size ≤ 4096 by have := HN10.out.2; show n ≤ 4096; omega) (by show (-1 : Int) ≠ 0; decide) HT.out at_)
  have HSt := hid (show ∀ w4, (¬ op10 (dSt.new n) at_ ∧ Adds w3 w4) ∨ (op10 (dSt.new n) at_ ∧ ∃ l q, MwE w w4 [(pp, PB10 d r (Ptr l) (Ptr q))] l d q r (msAt (dSt.new n) at_.toNat) (msAt (dSt.new n) at_.toNat) (dSt.new n) (dSt.new n)) → Lp10 w w4 pp d r 0 from fun w4 c => by
    rcases c with ⟨_, hA⟩ | ⟨hok, l, q, h⟩
    · obtain ⟨OD, OR, h⟩ := HPd.out
      exact .inr ⟨hA.at' (h.oth _ List.mem_cons_self).1 id, h.base.trans hA⟩
    · exact .inl ⟨l, d, q, r, _, _, h, Fit10.open hok HN10.out.2 (dnew_okU n 0 (by have := HN10.out; omega))⟩)
  have hns := ne_mas_some
  have hnn := ne_mas_none
  clear HPd H1 H2 HN HR
  go_wp2_with (first | (go_at_call 10; refine HO.out.mono ?_; rintro e w4 ⟨rfl, H4⟩; have HL4 := hid (HSt.out w4 H4.out); clear H4))
  go_loopw [12] (fun i wr => ∃ k : Nat, k ≤ 25 ∧ i = .int .i64 (k : Int) ∧ Hid (Lp10 w wr pp d r k)) (fun i _ => 25 - (intOf i).toNat)
  case atStart => exact ⟨0, Nat.zero_le _, rfl, HL4.out⟩
  case round =>
    obtain ⟨k, hk, rfl, HR⟩ := hrel
    have HAw := hid HR.out.base
    by_cases hlt : k < len ∧ k < 25
    · have d1 : decide (k < len) = true := by simpa using hlt.1
      have d2 : decide ((k : Int) < 25) = true := by simp; omega
      have d3 : decide (k < 25) = true := by simpa using hlt.2
      have d4 : decide ((k : Int) < (len : Int)) = true := by simp; omega
      rcases HR.out with ⟨l, d2, q, r2, L, D, hP, hF⟩ | ⟨hb, _⟩
      · have c2 : wr.cell? ⟨pp, 2, none⟩ = some (Ptr l) := cellOf (hP.other _ List.mem_cons_self) 2
        obtain ⟨b, o, k0, n0, p0, fx, c, ja, jc, js, jt, ja2, rfl, hra, hfx, hka, hks, hn64⟩ := HI.out.2 k hlt.1
        obtain ⟨fa, fc, ns⟩ := fx
        obtain ⟨fn, hfn⟩ : ∃ fn, fn = ns.length := ⟨_, rfl⟩
        dsimp only at hra hfx
        rw [← hfn] at hra hfx
        have hrr : Hid (wr.rangeAt b (o + k * 8) (act10C k0 n0 p0 fa fn fc c ja (List.length js) jc jt ja2)) := fun j v hv => below_adds HAw.out (hra j v hv)
        have hi53 : Hid ((Tryd.prog.info? 43).map (·.size) = some (act10C k0 n0 p0 fa fn fc c ja (List.length js) jc jt ja2).length) := infoAct10
        have HDo := hid (show Calls Tryd.prog 11 #[Ptr pp, .agg (act10C k0 n0 p0 fa fn fc c ja (List.length js) jc jt ja2).toArray] wr (PDo10 w pp (11 * k + 11)) from does10_any hP HPP.out hF (by omega) HT.out k0 n0 p0 fa fn fc ns hfn.symm hfx.2.2.2 hfx.2.2.1 hfx.2.1 hfx.1 c ja (List.length js) jc jt ja2 hn64 js hka rfl hks)
        have hlt1 := hlt.1
        have hlt2 := hlt.2
        clear hP hF hra hka hks hn64 hlt HSt HO hfx hfn
        go_wp2_with (first
          | (refine wpList_load_mid rfl 43 _ rfl b (o + k * 8) rfl (act10C k0 n0 p0 fa fn fc c ja (List.length js) jc jt ja2) _ hrr.out Tryd.underlying43 rfl hi53.out ?_)
          | (go_at_call 11; refine HDo.out.mono ?_; rintro e w5 ⟨rfl, H5⟩; obtain ⟨l5, d5, q5, r5, L5, D5, h5, f5⟩ := H5.out; have HP5 := hid (And.intro h5 f5); clear h5 f5 H5)
          | (go_at_call 12; refine (p10_alike HP5.out.1 List.mem_cons_self HP5.out.2.ok HP5.out.2.dok (by omega) (by have := HP5.out.2.size; omega)).mono ?_; rintro e w6 ⟨rfl, H6⟩))
        go_roundw
        case rel => exact ⟨k + 1, by omega, by go_num, .inl ⟨l5, d5, q5, r5, L5, D5, H6.out, HP5.out.2.mono (by omega)⟩⟩
        case measure => simp [intOf]; omega
      · have c2 : wr.cell? ⟨pp, 2, none⟩ = some (.pointer none) := cellOf hb 2
        clear HSt HO
        go_wp2_with (first | (go_at_call 9; refine (HW.out wr HAw.out).mono ?_; rintro e w8 ⟨rfl, hA8⟩; have HA8 := hid (HAw.out.trans hA8); clear hA8))
        go_ret
        exact ⟨rfl, HA8.out⟩
    · by_cases hl : k < len
      · have d1 : decide (k < len) = true := by simpa using hl
        have d4 : decide ((k : Int) < (len : Int)) = true := by simp; omega
        obtain rfl : k = 25 := by omega
        clear HSt HO
        go_wp2_with (first | (go_at_call 9; refine (HW.out wr HAw.out).mono ?_; rintro e w8 ⟨rfl, hA8⟩; have HA8 := hid (HAw.out.trans hA8); clear hA8))
        go_ret
        exact ⟨rfl, HA8.out⟩
      · have d1 : decide (k < len) = false := by simpa using hl
        have d4 : decide ((k : Int) < (len : Int)) = false := by simp; omega
        clear HSt HO
        go_wp2_with (first | (go_at_call 9; refine (HW.out wr HAw.out).mono ?_; rintro e w8 ⟨rfl, hA8⟩; have HA8 := hid (HAw.out.trans hA8); clear hA8))
        go_ret
        exact ⟨rfl, HA8.out⟩
set_option maxRecDepth 100000 in
theorem plays10 (n at_ : Int) (a : Option Addr) (len cap : Nat) (w : World) (hT : Tab w) (hI : Acts10 w a len) : Calls Tryd.prog 3 #[.int .i64 n, .int .i64 at_, .slice a len cap] w (Adding (.bool true) w) := by
  by_cases h : n < 1 ∨ 6 < n
  · exact plays10_no n at_ a len cap w hT h
  · exact plays10_yes n at_ a len cap w hT hI (by omega)
end Go.Proofs.YtmmgfankbabfbaaDoor
