/- The acts of a pair of spaces: a page by hand. -/
import Derived.Test.YtjlennpoaefllaaGreatDoorQ41
import Derived.Test.YtjlennpoaefllaaGreatDoorQ42
import Derived.Deep.CutBlock
import Derived.Deep.DeepCutAuto
import Derived.BigQuiet
namespace Go.Proofs.YtjlennpoaefllaaGreatDoor
open Go.RowKit
set_option maxRecDepth 100000 in
set_option maxHeartbeats 4000000 in
theorem act12_page {w0 w : World} {sp p d q r n k c : Nat} {s : F.Po} {D : dSt} (h : PwE w0 w [(sp, SBox p)] p d q r s s D D n k) (hj : Jz c s) (hc1 : 1 ≤ c) (hc2 : c ≤ 1920) (hn : n + 40 ≤ 1000000) (hk9 : k ≤ 800) (no : Int) (fa : Option Addr) (fn fc : Nat) (kd : UInt8) (hkd : (no.tmod 5 = 4 ∧ kd = 3) ∨ (¬ no.tmod 5 = 4 ∧ kd = 2)) (cs0 : List UInt8) (hbl : cs0.length = fn) (hfc : fn ≤ fc) (hf9 : fn ≤ 9223372036854775807) (hfz : fa = none → fc = 0) (hAt : At w0 fa cs0) :
    Calls Tryz.prog 16 #[.agg #[.int .i64 6, .int .i64 no, .slice fa fn fc], Ptr d, Ptr r, Ptr sp, Ptr q] w (PA12 w0 sp p d q r c n k D.size) := by
  obtain ⟨ab, hab⟩ : ∃ ab, ab = w.heap.size := ⟨_, rfl⟩
  obtain ⟨wd, hwd⟩ : ∃ wd, wd = w.alloc (AB12 6 no fa fn fc) := ⟨_, rfl⟩
  have HP := hid (show PwE w0 wd [(ab, AB12 6 no fa fn fc), (sp, SBox p)] p d q r s s D D n k by rw [hwd, hab]; exact h.more ((Touch.refl _ w).alloc _) w.heap.size _ (heap_alloc_new w _) (Nat.le_refl _))
  have HJ := hid hj
  have HC := hid (And.intro (And.intro hc1 hc2) (And.intro hn hk9))
  have HG := hid h.facts
  have HAx := hid (HP.out.other (ab, AB12 6 no fa fn fc) List.mem_cons_self)
  have HSx := hid (HP.out.other (sp, SBox p) (List.mem_cons_of_mem _ List.mem_cons_self))
  have hm1 := (hj.maps hc1 hc2).2
  have HSpl := hid (show Calls Tryz.prog 15 #[Ptr sp] wd (Tells (Ptr p) wd) from spool_any HSx.out)
  have c0 : wd.cell? ⟨ab, 0, none⟩ = some (.int .i64 6) := cellOf HAx.out 0
  obtain ⟨BS, hBS⟩ : ∃ BS, BS = cs0.take 200 := ⟨_, rfl⟩
  obtain ⟨fm, hfm⟩ : ∃ fm, fm = BS.length := ⟨_, rfl⟩
  have HFm1 := hid (show ¬ 200 < fn → fm = fn by rw [hfm, hBS, List.length_take, hbl]; omega)
  have HFm2 := hid (show 200 < fn → fm = 200 by rw [hfm, hBS, List.length_take, hbl]; omega)
  have hfm2 : fm ≤ 200 := by rw [hfm, hBS, List.length_take]; omega
  obtain ⟨zk, hzk⟩ : ∃ zk : Int, zk = (kd.toNat : Int) := ⟨_, rfl⟩
  have hkz : (no.tmod 5 = 4 ∧ zk = 3) ∨ (¬ no.tmod 5 = 4 ∧ zk = 2) := by
    rw [hzk]
    rcases hkd with ⟨a, e⟩ | ⟨a, e⟩
    · exact .inl ⟨a, by rw [e]; rfl⟩
    · exact .inr ⟨a, by rw [e]; rfl⟩
  have hAd : At wd fa BS := by rw [hBS]; exact (hAt.adds HP.out.base).take 200
  have HB := hid (show Calls Tryz.prog 52 #[.agg #[.int .i64 0, .int .u8 zk, .slice (some ⟨wd.heap.size, 0, none⟩) 1 1]] (wd.alloc (.cells #[.slice fa fm fc] 43)) _ by rw [hzk]; exact rbytes_any (Q := fun _ => True) 0 kd (some ⟨wd.heap.size, 0, none⟩) [⟨fa, BS, fc⟩] 1 1 rfl _ (gq_cell hfm.symm hAd hfz) (by decide) (by show M.taken [BS] ≤ 244; rw [M.taken_one]; omega))
  obtain ⟨bs, hbs⟩ : ∃ bs, bs = M.pbytes ⟨0, kd, [BS]⟩ := ⟨_, rfl⟩
  have hlen : bs.length = 256 := by rw [hbs]; exact M.len_pbytes (by show M.taken [BS] ≤ 244; rw [M.taken_one]; omega)
  have HBl := hid (fun (w1 : World) (a1 : Option Addr) (k1 : Nat) (H1 : w1.ownsRow ((wd.alloc (.cells #[.slice fa fm fc] 43)).heap.size + 1) 5 1 (.slice a1 256 k1) 256 (S (M.pbytes ⟨0, kd, [BS]⟩)) ∧ Adds (wd.alloc (.cells #[.slice fa fm fc] 43)) w1) => show ∃ g cu, a1 = some ⟨g, 0, none⟩ ∧ 256 ≤ k1 ∧ PwE w0 w1 ((g, (.cells cu 5 (0, 0) : Obj)) :: [(ab, AB12 6 no fa fn fc), (sp, SBox p)]) p d q r s s D D n k ∧ At w1 (some ⟨g, 0, none⟩) bs by
    obtain ⟨hrow, hA1⟩ := H1
    obtain ⟨g, k1', ea, hgl, hc⟩ := Own.some hrow (by decide)
    cases ea
    obtain ⟨cu, hcu⟩ := own_type hrow rfl
    have h1 := (row_low hrow rfl).1
    have h3 : (wd.alloc (.cells #[.slice fa fm fc] 43)).heap.size = wd.heap.size + 1 := by simp
    refine ⟨g, cu, rfl, hc, HP.out.more (((Touch.refl _ wd).alloc _).trans hA1) g _ hcu (by omega), ?_⟩
    rw [hbs]
    exact At.own hrow)
  obtain ⟨zz, hzz⟩ : ∃ zz : Int, zz = (F.putE s ((0 : Nat) : Int) bs : Int) := ⟨_, rfl⟩
  have HA := hid (fun (w1 : World) (g k1 : Nat) (cu : Array Value) (h1 : PwE w0 w1 ((g, (.cells cu 5 (0, 0) : Obj)) :: [(ab, AB12 6 no fa fn fc), (sp, SBox p)]) p d q r s s D D n k) (hk1 : 256 ≤ k1) (hAt : At w1 (some ⟨g, 0, none⟩) bs) => show Calls Tryz.prog 53 #[Ptr p, .int .i64 0, .slice (some ⟨g, 0, none⟩) 256 k1] w1 (PPw w0 ((g, (.cells cu 5 (0, 0) : Obj)) :: [(ab, AB12 6 no fa fn fc), (sp, SBox p)]) p d q r (F.putS s ((0 : Nat) : Int) bs) s D D (n + 1) k (.int .i64 zz)) by rw [hzz]; exact pw_put h1 (by omega) ((0 : Nat) : Int) _ bs 256 k1 hlen hk1 hAt)
  have HR := hid (fun (w2 : World) (g k1 : Nat) (cu : Array Value) (h2 : PwE w0 w2 ((g, (.cells cu 5 (0, 0) : Obj)) :: [(ab, AB12 6 no fa fn fc), (sp, SBox p)]) p d q r (F.putS s ((0 : Nat) : Int) bs) s D D (n + 1) k) (hk1 : 256 ≤ k1) (hAt : At w2 (some ⟨g, 0, none⟩) bs) => show Calls Tryz.prog 54 #[Ptr q, .int .i64 0, .slice (some ⟨g, 0, none⟩) 256 k1] w2 (PPw w0 ((g, (.cells cu 5 (0, 0) : Obj)) :: [(ab, AB12 6 no fa fn fc), (sp, SBox p)]) p d q r (F.putS s ((0 : Nat) : Int) bs) (F.putS s ((0 : Nat) : Int) bs) D D (n + 1) k (.int .i64 zz)) by rw [hzz]; exact pq_put h2 HG.out.1 hj.mo hj.nl ((0 : Nat) : Int) _ bs 256 k1 hlen hk1 hAt)
  have HJ2 := hid (hj.put bs)
  have c2 : wd.cell? ⟨ab, 2, none⟩ = some (.slice fa fn fc) := cellOf HAx.out 2
  have c1 : wd.cell? ⟨ab, 1, none⟩ = some (.int .i64 no) := cellOf HAx.out 1
  unfold Ptr at *
  clear h hj hn hk9 hm1 hc1 hc2 hkd hBS hfm hzk hAd hbs hzz hAt hfz hbl hlen
  go_enter Tryz.func16, Tryz.ntmps16
  go_upto_region 1 with fail
  rw [← hab, ← hwd]
  clear hab hwd
  go_upto_if 96 with (go_at_call 15; refine HSpl.out.mono ?_; rintro e w1 ⟨rfl, hw⟩; rw [hw]; clear hw)
  go_cut [16] (fun t wx => t = .slice fa fm fc ∧ wx = wd)
  case first =>
    by_cases hl : 200 < fn
    · have hl2 : (200 : Int) < (fn : Int) := by omega
      have hl3 : 200 ≤ fc := by omega
      go_wp2_with fail
      go_meet
      exact ⟨by rw [HFm2.out hl], rfl⟩
    · have hl2 : ¬ (200 : Int) < (fn : Int) := by omega
      go_wp2_with fail
      go_meet
      exact ⟨by rw [HFm1.out hl], rfl⟩
  case rest =>
  obtain ⟨rfl, hwc⟩ := hcut
  rw [hwc]
  clear hwc hfc hf9 HFm1 HFm2 c2 c0
  rcases hkz with ⟨hk, rfl⟩ | ⟨hk, rfl⟩
  · go_upto_region 25 with (go_at_call 52; refine HB.out.mono ?_; rintro e w1 ⟨a1, k1, rfl, H1⟩)
    clear hk c1
    obtain ⟨g, cu, rfl, hk1, hY, hAt1⟩ := HBl.out w1 a1 k1 H1.out
    have HY := hid (And.intro hk1 (And.intro hY hAt1))
    have HAt := hid (fun (w2 : World) (hw : w2.heap[g]? = some (.cells cu 5 (0, 0) : Obj)) => show At w2 (some ⟨g, 0, none⟩) bs from hAt1.block (fun b o e _ => by cases e; rw [hw]; exact (hY.other _ List.mem_cons_self).symm))
    clear hk1 hY hAt1 H1 HBl
    go_wp2_with (first
      | (go_at_call 53; refine (HA.out w1 g k1 cu HY.out.2.1 HY.out.1 HY.out.2.2).mono ?_; rintro e w2 ⟨rfl, H2⟩)
      | (go_at_call 54; refine (HR.out w2 g k1 cu H2.out HY.out.1 (HAt.out w2 (H2.out.other _ List.mem_cons_self))).mono ?_; rintro e w3 ⟨rfl, H3⟩))
    go_ret
    exact ⟨rfl, _, _, (H3.out.fewer (fun x hx => List.mem_cons_of_mem _ (List.mem_cons_of_mem _ hx))).later (by omega) (by omega), HJ2.out, rfl⟩
  · go_upto_region 25 with (go_at_call 52; refine HB.out.mono ?_; rintro e w1 ⟨a1, k1, rfl, H1⟩)
    clear hk c1
    obtain ⟨g, cu, rfl, hk1, hY, hAt1⟩ := HBl.out w1 a1 k1 H1.out
    have HY := hid (And.intro hk1 (And.intro hY hAt1))
    have HAt := hid (fun (w2 : World) (hw : w2.heap[g]? = some (.cells cu 5 (0, 0) : Obj)) => show At w2 (some ⟨g, 0, none⟩) bs from hAt1.block (fun b o e _ => by cases e; rw [hw]; exact (hY.other _ List.mem_cons_self).symm))
    clear hk1 hY hAt1 H1 HBl
    go_wp2_with (first
      | (go_at_call 53; refine (HA.out w1 g k1 cu HY.out.2.1 HY.out.1 HY.out.2.2).mono ?_; rintro e w2 ⟨rfl, H2⟩)
      | (go_at_call 54; refine (HR.out w2 g k1 cu H2.out HY.out.1 (HAt.out w2 (H2.out.other _ List.mem_cons_self))).mono ?_; rintro e w3 ⟨rfl, H3⟩))
    go_ret
    exact ⟨rfl, _, _, (H3.out.fewer (fun x hx => List.mem_cons_of_mem _ (List.mem_cons_of_mem _ hx))).later (by omega) (by omega), HJ2.out, rfl⟩
end Go.Proofs.YtjlennpoaefllaaGreatDoor
