/- Texts put together: VP4a, VP4b, VP4c, VP4d, VP4e, VP4f. -/
import Derived.Test.YtmmgfankbabfbaaDoorQ48
import Derived.Test.YtmmgfankbabfbaaDoorQ49
import Derived.BigQuiet
/- Acts of a pair of masters: Cut. -/
namespace Go.Proofs.YtmmgfankbabfbaaDoor
open Go.RowKit
set_option maxRecDepth 100000 in
set_option maxHeartbeats 4000000 in
theorem does10_cut {w0 w : World} {pp l d q r n0 : Nat} {L : U.MS} {D : dSt} (h : MwE w0 w [(pp, PB10 d r (Ptr l) (Ptr q))] l d q r L L D D) (hpp : w0.heap.size ≤ pp) (hf : Fit10 L D n0) (hn0 : n0 ≤ 700) (hT : Tab w0) (n p : Int) (fa : Option Addr) (fn fc : Nat) (ns : List Nat) (hns : ns.length = fn) (hfc : fn ≤ fc) (hfl : fn ≤ 9223372036854775807) (hF : ∀ k ∈ ns, k < 18446744073709551616) (hq : NQ w0 (fun k => k < w0.heap.size) ⟨fa, fc, ns⟩) (c : UInt8) (ka : Option Addr) (kn kc : Nat) (torn at_ : Int) (hn64 : n ≤ 9223372036854775807) :
    Calls Tryd.prog 11 #[Ptr pp, .agg (act10 1 n p fa fn fc c ka kn kc torn at_)] w (PDo10 w0 pp (n0 + 11)) := by
  obtain ⟨ab, hab⟩ : ∃ ab, ab = w.heap.size := ⟨_, rfl⟩
  obtain ⟨wd, hwd⟩ : ∃ wd, wd = w.alloc (.cells (act10 1 n p fa fn fc c ka kn kc torn at_) 43 (0, 0)) := ⟨_, rfl⟩
  have HP := hid (show MwE w0 wd [(ab, (.cells (act10 1 n p fa fn fc c ka kn kc torn at_) 43 (0, 0))), (pp, PB10 d r (Ptr l) (Ptr q))] l d q r L L D D by rw [hwd, hab]; exact h.more ((Touch.refl _ w).alloc _) w.heap.size _ (heap_alloc_new w _) (Nat.le_refl _))
  have HF := hid hf
  have HPP := hid hpp
  have HTb := hid hT
  have HN0 := hid hn0
  have HPx := hid (HP.out.other (pp, PB10 d r (Ptr l) (Ptr q)) (List.mem_cons_of_mem _ List.mem_cons_self))
  have HAx := hid (HP.out.other (ab, (.cells (act10 1 n p fa fn fc c ka kn kc torn at_) 43 (0, 0))) List.mem_cons_self)
  obtain ⟨fs, hfs⟩ : ∃ fs, fs = ns.take 40 := ⟨_, rfl⟩
  obtain ⟨fm, hfm⟩ : ∃ fm, fm = fs.length := ⟨_, rfl⟩
  have HFm1 := hid (show ¬ 40 < fn → fm = fn by rw [hfm, hfs, List.length_take, hns]; omega)
  have HFm2 := hid (show 40 < fn → fm = 40 by rw [hfm, hfs, List.length_take, hns]; omega)
  have HFs := hid (And.intro (show NQ w0 (fun k => k < w0.heap.size) ⟨fa, fc, fs⟩ by rw [hfs]; exact nq_take hq) (And.intro (show ∀ k ∈ fs, k < 18446744073709551616 by rw [hfs]; exact fun k hk => hF k (List.mem_of_mem_take hk)) hfm.symm))
  have e3 : (w.alloc (.cells (act10 1 n p fa fn fc c ka kn kc torn at_) 43 (0, 0))).cell? ⟨w.heap.size, 3, none⟩ = some (.slice fa fn fc) := cellOf (heap_alloc_new w _) 3
  clear h hpp hf hT hq hF hns hfs hfm
  go_enter Tryd.func11, Tryd.ntmps11
  go_upto_if 15 with fail
  rw [← hab, ← hwd]
  clear hab hwd e3
  go_cut [5] (fun t5 wx => t5 = .slice fa fm fc ∧ wx = wd)
  case first =>
    by_cases hl : 40 < fn
    · have hl2 : (40 : Int) < (fn : Int) := by omega
      have hl3 : 40 ≤ fc := by omega
      go_wp2_with fail
      go_meet
      exact ⟨by rw [HFm2.out hl], rfl⟩
    · have hl2 : ¬ (40 : Int) < (fn : Int) := by omega
      go_wp2_with fail
      go_meet
      exact ⟨by rw [HFm1.out hl], rfl⟩
  case rest =>
  obtain ⟨rfl, hwc⟩ := hcut
  rw [hwc]
  clear hwc hfc hfl HFm1 HFm2
  have g0 : wd.cell? ⟨ab, 0, none⟩ = some (.int .i64 1) := cellOf HAx.out 0
  obtain ⟨z, hz⟩ : ∃ z, z = cutE n := ⟨_, rfl⟩
  have HC1 := hid (show Calls Tryd.prog 18 #[Ptr d, .int .i64 n] wd.drew (PMw w0 [(ab, (.cells (act10 1 n p fa fn fc c ka kn kc torn at_) 43 (0, 0))), (pp, PB10 d r (Ptr l) (Ptr q))] l d q r L L (cutD D n) D (.int .i64 z)) by rw [hz]; exact mw_cut (HP.out.adds (Touch.refl _ wd).drew) HF.out.dok.size n)
  have HC2 := hid (fun (w2 : World) (h2 : MwE w0 w2 [(ab, (.cells (act10 1 n p fa fn fc c ka kn kc torn at_) 43 (0, 0))), (pp, PB10 d r (Ptr l) (Ptr q))] l d q r L L (cutD D n) D) => show Calls Tryd.prog 26 #[Ptr r, .int .i64 n] w2 (PMw w0 [(ab, (.cells (act10 1 n p fa fn fc c ka kn kc torn at_) 43 (0, 0))), (pp, PB10 d r (Ptr l) (Ptr q))] l d q r L L (cutD D n) (cutD D n) (.int .i64 z)) by rw [hz]; exact mq_cut h2 n)
  have HN64 := hid hn64
  clear hz hn64
  go_upto_region 9 with fail
  refine H_begin (S := fun w' : World => w'.heap[pp]? = some (PB10 d r (Ptr l) (Ptr q)) ∧ w'.heap[ab]? = some (.cells (act10 1 n p fa fn fc c ka kn kc torn at_) 43 (0, 0))) (by kernel_rfl) ?_
  have hS : (fun w' : World => w'.heap[pp]? = some (PB10 d r (Ptr l) (Ptr q)) ∧ w'.heap[ab]? = some (.cells (act10 1 n p fa fn fc c ka kn kc torn at_) 43 (0, 0))) wd.drew := ⟨HP.out.other (pp, PB10 d r (Ptr l) (Ptr q)) (List.mem_cons_of_mem _ List.mem_cons_self), HP.out.other (ab, (.cells (act10 1 n p fa fn fc c ka kn kc torn at_) 43 (0, 0))) List.mem_cons_self⟩
  refine H_put (i := 0) 51 (v := Ptr pp) rfl rfl (by kernel_rfl) (by kernel_rfl) (by kernel_rfl) (fun _ _ _ h => h) (Or.inl ⟨by rfl, fun w' hw' => ?_⟩) hS ?_
  · go_simp
  simp only [Act.put, List.setIfInBounds_toArray, List.set_cons_zero, List.set_cons_succ]
  refine H_put (i := 1) 52 (v := Ptr pp) rfl rfl (by kernel_rfl) (by kernel_rfl) (by kernel_rfl) (fun _ _ _ h => h) (Or.inl ⟨by rfl, fun w' hw' => ?_⟩) hS ?_
  · go_simp
  simp only [Act.put, List.setIfInBounds_toArray, List.set_cons_zero, List.set_cons_succ]
  refine H_put (i := 2) 53 (v := .pointer (some ⟨pp, 0, none⟩)) rfl rfl (by kernel_rfl) (by kernel_rfl) (by kernel_rfl) (fun _ _ _ h => h) (Or.inl ⟨by rfl, fun w' hw' => ?_⟩) hS ?_
  · go_simp
  simp only [Act.put, List.setIfInBounds_toArray, List.set_cons_zero, List.set_cons_succ]
  refine H_put (i := 3) 54 (v := Ptr d) rfl rfl (by kernel_rfl) (by kernel_rfl) (by kernel_rfl) (fun _ _ _ h => h) (Or.inl ⟨by rfl, fun w' hw' => ?_⟩) hS ?_
  · have c : w'.cell? ⟨pp, 0, none⟩ = some (Ptr d) := cellOf hw'.1 0; go_simp
  simp only [Act.put, List.setIfInBounds_toArray, List.set_cons_zero, List.set_cons_succ]
  refine H_put (i := 4) 55 (v := .pointer (some ⟨ab, 1, none⟩)) rfl rfl (by kernel_rfl) (by kernel_rfl) (by kernel_rfl) (fun _ _ _ h => h) (Or.inl ⟨by rfl, fun w' hw' => ?_⟩) hS ?_
  · go_simp
  simp only [Act.put, List.setIfInBounds_toArray, List.set_cons_zero, List.set_cons_succ]
  refine H_put (i := 5) 56 (v := .int .i64 n) rfl rfl (by kernel_rfl) (by kernel_rfl) (by kernel_rfl) (fun _ _ _ h => h) (Or.inl ⟨by rfl, fun w' hw' => ?_⟩) hS ?_
  · have c : w'.cell? ⟨ab, 1, none⟩ = some (.int .i64 n) := cellOf hw'.2 1; go_simp
  simp only [Act.put, List.setIfInBounds_toArray, List.set_cons_zero, List.set_cons_succ]
  refine H_put (i := 7) 58 (v := Ptr pp) rfl rfl (by kernel_rfl) (by kernel_rfl) (by kernel_rfl) (fun _ _ _ h => h) (Or.inl ⟨by rfl, fun w' hw' => ?_⟩) hS ?_
  · go_simp
  simp only [Act.put, List.setIfInBounds_toArray, List.set_cons_zero, List.set_cons_succ]
  refine H_put (i := 8) 59 (v := Ptr pp) rfl rfl (by kernel_rfl) (by kernel_rfl) (by kernel_rfl) (fun _ _ _ h => h) (Or.inl ⟨by rfl, fun w' hw' => ?_⟩) hS ?_
  · go_simp
  simp only [Act.put, List.setIfInBounds_toArray, List.set_cons_zero, List.set_cons_succ]
  refine H_put (i := 9) 60 (v := .pointer (some ⟨pp, 1, none⟩)) rfl rfl (by kernel_rfl) (by kernel_rfl) (by kernel_rfl) (fun _ _ _ h => h) (Or.inl ⟨by rfl, fun w' hw' => ?_⟩) hS ?_
  · go_simp
  simp only [Act.put, List.setIfInBounds_toArray, List.set_cons_zero, List.set_cons_succ]
  refine H_put (i := 10) 61 (v := Ptr r) rfl rfl (by kernel_rfl) (by kernel_rfl) (by kernel_rfl) (fun _ _ _ h => h) (Or.inl ⟨by rfl, fun w' hw' => ?_⟩) hS ?_
  · have c : w'.cell? ⟨pp, 1, none⟩ = some (Ptr r) := cellOf hw'.1 1; go_simp
  simp only [Act.put, List.setIfInBounds_toArray, List.set_cons_zero, List.set_cons_succ]
  refine H_put (i := 11) 62 (v := .pointer (some ⟨ab, 1, none⟩)) rfl rfl (by kernel_rfl) (by kernel_rfl) (by kernel_rfl) (fun _ _ _ h => h) (Or.inl ⟨by rfl, fun w' hw' => ?_⟩) hS ?_
  · go_simp
  simp only [Act.put, List.setIfInBounds_toArray, List.set_cons_zero, List.set_cons_succ]
  refine H_put (i := 12) 63 (v := .int .i64 n) rfl rfl (by kernel_rfl) (by kernel_rfl) (by kernel_rfl) (fun _ _ _ h => h) (Or.inl ⟨by rfl, fun w' hw' => ?_⟩) hS ?_
  · have c : w'.cell? ⟨ab, 1, none⟩ = some (.int .i64 n) := cellOf hw'.2 1; go_simp
  simp only [Act.put, List.setIfInBounds_toArray, List.set_cons_zero, List.set_cons_succ]
  refine H_call (i := 6) 57 18 #[Ptr d, .int .i64 n] (by kernel_rfl) rfl rfl (by rfl) (by go_simp) (HC1.out) ?_
  rintro e w2 ⟨rfl, H2⟩
  have hS2 : (fun w' : World => w'.heap[pp]? = some (PB10 d r (Ptr l) (Ptr q)) ∧ w'.heap[ab]? = some (.cells (act10 1 n p fa fn fc c ka kn kc torn at_) 43 (0, 0))) _ := ⟨H2.out.other (pp, PB10 d r (Ptr l) (Ptr q)) (List.mem_cons_of_mem _ List.mem_cons_self), H2.out.other (ab, (.cells (act10 1 n p fa fn fc c ka kn kc torn at_) 43 (0, 0))) List.mem_cons_self⟩
  refine ⟨_, _, rfl, hS2, fun w' h => h, ?_⟩
  clear hS; have hS := hS2; clear hS2
  simp only [Act.put, List.setIfInBounds_toArray, List.set_cons_zero, List.set_cons_succ]
  refine H_call (i := 13) 64 26 #[Ptr r, .int .i64 n] (by kernel_rfl) rfl rfl (by rfl) (by go_simp) (HC2.out w2 H2.out) ?_
  rintro e w3 ⟨rfl, H3⟩
  have hS2 : (fun w' : World => w'.heap[pp]? = some (PB10 d r (Ptr l) (Ptr q)) ∧ w'.heap[ab]? = some (.cells (act10 1 n p fa fn fc c ka kn kc torn at_) 43 (0, 0))) _ := ⟨H3.out.other (pp, PB10 d r (Ptr l) (Ptr q)) (List.mem_cons_of_mem _ List.mem_cons_self), H3.out.other (ab, (.cells (act10 1 n p fa fn fc c ka kn kc torn at_) 43 (0, 0))) List.mem_cons_self⟩
  refine ⟨_, _, rfl, hS2, fun w' h => h, ?_⟩
  clear hS; have hS := hS2; clear hS2
  simp only [Act.put, List.setIfInBounds_toArray, List.set_cons_zero, List.set_cons_succ]
  refine H_put (i := 14) 65 (v := .bool true) rfl rfl (by kernel_rfl) (by kernel_rfl) (by kernel_rfl) (fun _ _ _ h => h) (Or.inl ⟨by rfl, fun w' hw' => ?_⟩) hS ?_
  · go_simp
  simp only [Act.put, List.setIfInBounds_toArray, List.set_cons_zero, List.set_cons_succ]
  refine H_put (i := 15) 4 (v := .bool true) rfl rfl (by kernel_rfl) (by kernel_rfl) (by kernel_rfl) (fun _ _ _ h => h) (Or.inl ⟨by rfl, fun w' hw' => ?_⟩) hS ?_
  · go_simp
  simp only [Act.put, List.setIfInBounds_toArray, List.set_cons_zero, List.set_cons_succ]
  refine wpAnyH_done (by kernel_rfl) ?_ _
  clear hS
  go_wp2_with fail
  go_ret
  exact ⟨rfl, l, d, q, r, _, _, H3.out.fewer (fun x hx => List.mem_cons_of_mem _ hx), HF.out.cut n HN64.out⟩
end Go.Proofs.YtmmgfankbabfbaaDoor

/- Acts of a pair of masters: Spoil. -/
namespace Go.Proofs.YtmmgfankbabfbaaDoor
open Go.RowKit
set_option maxRecDepth 100000 in
set_option maxHeartbeats 4000000 in
theorem does10_spoil {w0 w : World} {pp l d q r n0 : Nat} {L : U.MS} {D : dSt} (h : MwE w0 w [(pp, PB10 d r (Ptr l) (Ptr q))] l d q r L L D D) (hpp : w0.heap.size ≤ pp) (hf : Fit10 L D n0) (hn0 : n0 ≤ 700) (hT : Tab w0) (n p : Int) (fa : Option Addr) (fn fc : Nat) (ns : List Nat) (hns : ns.length = fn) (hfc : fn ≤ fc) (hfl : fn ≤ 9223372036854775807) (hF : ∀ k ∈ ns, k < 18446744073709551616) (hq : NQ w0 (fun k => k < w0.heap.size) ⟨fa, fc, ns⟩) (c : UInt8) (ka : Option Addr) (kn kc : Nat) (torn at_ : Int) :
    Calls Tryd.prog 11 #[Ptr pp, .agg (act10 3 n p fa fn fc c ka kn kc torn at_)] w (PDo10 w0 pp (n0 + 11)) := by
  obtain ⟨ab, hab⟩ : ∃ ab, ab = w.heap.size := ⟨_, rfl⟩
  obtain ⟨wd, hwd⟩ : ∃ wd, wd = w.alloc (.cells (act10 3 n p fa fn fc c ka kn kc torn at_) 43 (0, 0)) := ⟨_, rfl⟩
  have HP := hid (show MwE w0 wd [(ab, (.cells (act10 3 n p fa fn fc c ka kn kc torn at_) 43 (0, 0))), (pp, PB10 d r (Ptr l) (Ptr q))] l d q r L L D D by rw [hwd, hab]; exact h.more ((Touch.refl _ w).alloc _) w.heap.size _ (heap_alloc_new w _) (Nat.le_refl _))
  have HF := hid hf
  have HPP := hid hpp
  have HTb := hid hT
  have HN0 := hid hn0
  have HPx := hid (HP.out.other (pp, PB10 d r (Ptr l) (Ptr q)) (List.mem_cons_of_mem _ List.mem_cons_self))
  have HAx := hid (HP.out.other (ab, (.cells (act10 3 n p fa fn fc c ka kn kc torn at_) 43 (0, 0))) List.mem_cons_self)
  obtain ⟨fs, hfs⟩ : ∃ fs, fs = ns.take 40 := ⟨_, rfl⟩
  obtain ⟨fm, hfm⟩ : ∃ fm, fm = fs.length := ⟨_, rfl⟩
  have HFm1 := hid (show ¬ 40 < fn → fm = fn by rw [hfm, hfs, List.length_take, hns]; omega)
  have HFm2 := hid (show 40 < fn → fm = 40 by rw [hfm, hfs, List.length_take, hns]; omega)
  have HFs := hid (And.intro (show NQ w0 (fun k => k < w0.heap.size) ⟨fa, fc, fs⟩ by rw [hfs]; exact nq_take hq) (And.intro (show ∀ k ∈ fs, k < 18446744073709551616 by rw [hfs]; exact fun k hk => hF k (List.mem_of_mem_take hk)) hfm.symm))
  have e3 : (w.alloc (.cells (act10 3 n p fa fn fc c ka kn kc torn at_) 43 (0, 0))).cell? ⟨w.heap.size, 3, none⟩ = some (.slice fa fn fc) := cellOf (heap_alloc_new w _) 3
  clear h hpp hf hT hq hF hns hfs hfm
  go_enter Tryd.func11, Tryd.ntmps11
  go_upto_if 15 with fail
  rw [← hab, ← hwd]
  clear hab hwd e3
  go_cut [5] (fun t5 wx => t5 = .slice fa fm fc ∧ wx = wd)
  case first =>
    by_cases hl : 40 < fn
    · have hl2 : (40 : Int) < (fn : Int) := by omega
      have hl3 : 40 ≤ fc := by omega
      go_wp2_with fail
      go_meet
      exact ⟨by rw [HFm2.out hl], rfl⟩
    · have hl2 : ¬ (40 : Int) < (fn : Int) := by omega
      go_wp2_with fail
      go_meet
      exact ⟨by rw [HFm1.out hl], rfl⟩
  case rest =>
  obtain ⟨rfl, hwc⟩ := hcut
  rw [hwc]
  clear hwc hfc hfl HFm1 HFm2
  have g0 : wd.cell? ⟨ab, 0, none⟩ = some (.int .i64 3) := cellOf HAx.out 0
  obtain ⟨z, hz⟩ : ∃ z, z = spoilE D n p := ⟨_, rfl⟩
  have HC1 := hid (show Calls Tryd.prog 28 #[Ptr d, .int .i64 n, .int .i64 p, .int .u8 (c.toNat : Int)] wd.drew (PMw w0 [(ab, (.cells (act10 3 n p fa fn fc c ka kn kc torn at_) 43 (0, 0))), (pp, PB10 d r (Ptr l) (Ptr q))] l d q r L L (spoilD D n p c) D (.int .i64 z)) by rw [hz]; exact mw_spoil (HP.out.adds (Touch.refl _ wd).drew) HF.out.dok (by have := HN0.out; omega) n p c)
  have HC2 := hid (fun (w2 : World) (h2 : MwE w0 w2 [(ab, (.cells (act10 3 n p fa fn fc c ka kn kc torn at_) 43 (0, 0))), (pp, PB10 d r (Ptr l) (Ptr q))] l d q r L L (spoilD D n p c) D) => show Calls Tryd.prog 29 #[Ptr r, .int .i64 n, .int .i64 p, .int .u8 (c.toNat : Int)] w2 (PMw w0 [(ab, (.cells (act10 3 n p fa fn fc c ka kn kc torn at_) 43 (0, 0))), (pp, PB10 d r (Ptr l) (Ptr q))] l d q r L L (spoilD D n p c) (spoilD D n p c) (.int .i64 z)) by rw [hz]; exact mq_spoil h2 HF.out.dok (by have := HN0.out; omega) n p c)
  clear hz
  go_upto_region 18 with fail
  refine H_begin (S := fun w' : World => w'.heap[pp]? = some (PB10 d r (Ptr l) (Ptr q)) ∧ w'.heap[ab]? = some (.cells (act10 3 n p fa fn fc c ka kn kc torn at_) 43 (0, 0))) (by kernel_rfl) ?_
  have hS : (fun w' : World => w'.heap[pp]? = some (PB10 d r (Ptr l) (Ptr q)) ∧ w'.heap[ab]? = some (.cells (act10 3 n p fa fn fc c ka kn kc torn at_) 43 (0, 0))) wd.drew := ⟨HP.out.other (pp, PB10 d r (Ptr l) (Ptr q)) (List.mem_cons_of_mem _ List.mem_cons_self), HP.out.other (ab, (.cells (act10 3 n p fa fn fc c ka kn kc torn at_) 43 (0, 0))) List.mem_cons_self⟩
  refine H_put (i := 0) 117 (v := Ptr pp) rfl rfl (by kernel_rfl) (by kernel_rfl) (by kernel_rfl) (fun _ _ _ h => h) (Or.inl ⟨by rfl, fun w' hw' => ?_⟩) hS ?_
  · go_simp
  simp only [Act.put, List.setIfInBounds_toArray, List.set_cons_zero, List.set_cons_succ]
  refine H_put (i := 1) 118 (v := Ptr pp) rfl rfl (by kernel_rfl) (by kernel_rfl) (by kernel_rfl) (fun _ _ _ h => h) (Or.inl ⟨by rfl, fun w' hw' => ?_⟩) hS ?_
  · go_simp
  simp only [Act.put, List.setIfInBounds_toArray, List.set_cons_zero, List.set_cons_succ]
  refine H_put (i := 2) 119 (v := .pointer (some ⟨pp, 0, none⟩)) rfl rfl (by kernel_rfl) (by kernel_rfl) (by kernel_rfl) (fun _ _ _ h => h) (Or.inl ⟨by rfl, fun w' hw' => ?_⟩) hS ?_
  · go_simp
  simp only [Act.put, List.setIfInBounds_toArray, List.set_cons_zero, List.set_cons_succ]
  refine H_put (i := 3) 120 (v := Ptr d) rfl rfl (by kernel_rfl) (by kernel_rfl) (by kernel_rfl) (fun _ _ _ h => h) (Or.inl ⟨by rfl, fun w' hw' => ?_⟩) hS ?_
  · have c : w'.cell? ⟨pp, 0, none⟩ = some (Ptr d) := cellOf hw'.1 0; go_simp
  simp only [Act.put, List.setIfInBounds_toArray, List.set_cons_zero, List.set_cons_succ]
  refine H_put (i := 4) 121 (v := .pointer (some ⟨ab, 1, none⟩)) rfl rfl (by kernel_rfl) (by kernel_rfl) (by kernel_rfl) (fun _ _ _ h => h) (Or.inl ⟨by rfl, fun w' hw' => ?_⟩) hS ?_
  · go_simp
  simp only [Act.put, List.setIfInBounds_toArray, List.set_cons_zero, List.set_cons_succ]
  refine H_put (i := 5) 122 (v := .int .i64 n) rfl rfl (by kernel_rfl) (by kernel_rfl) (by kernel_rfl) (fun _ _ _ h => h) (Or.inl ⟨by rfl, fun w' hw' => ?_⟩) hS ?_
  · have c : w'.cell? ⟨ab, 1, none⟩ = some (.int .i64 n) := cellOf hw'.2 1; go_simp
  simp only [Act.put, List.setIfInBounds_toArray, List.set_cons_zero, List.set_cons_succ]
  refine H_put (i := 6) 123 (v := .pointer (some ⟨ab, 2, none⟩)) rfl rfl (by kernel_rfl) (by kernel_rfl) (by kernel_rfl) (fun _ _ _ h => h) (Or.inl ⟨by rfl, fun w' hw' => ?_⟩) hS ?_
  · go_simp
  simp only [Act.put, List.setIfInBounds_toArray, List.set_cons_zero, List.set_cons_succ]
  refine H_put (i := 7) 124 (v := .int .i64 p) rfl rfl (by kernel_rfl) (by kernel_rfl) (by kernel_rfl) (fun _ _ _ h => h) (Or.inl ⟨by rfl, fun w' hw' => ?_⟩) hS ?_
  · have c : w'.cell? ⟨ab, 2, none⟩ = some (.int .i64 p) := cellOf hw'.2 2; go_simp
  simp only [Act.put, List.setIfInBounds_toArray, List.set_cons_zero, List.set_cons_succ]
  refine H_put (i := 8) 125 (v := .pointer (some ⟨ab, 4, none⟩)) rfl rfl (by kernel_rfl) (by kernel_rfl) (by kernel_rfl) (fun _ _ _ h => h) (Or.inl ⟨by rfl, fun w' hw' => ?_⟩) hS ?_
  · go_simp
  simp only [Act.put, List.setIfInBounds_toArray, List.set_cons_zero, List.set_cons_succ]
  refine H_put (i := 9) 126 (v := .int .u8 (c.toNat : Int)) rfl rfl (by kernel_rfl) (by kernel_rfl) (by kernel_rfl) (fun _ _ _ h => h) (Or.inl ⟨by rfl, fun w' hw' => ?_⟩) hS ?_
  · have c : w'.cell? ⟨ab, 4, none⟩ = some (.int .u8 (c.toNat : Int)) := cellOf hw'.2 4; go_simp
  simp only [Act.put, List.setIfInBounds_toArray, List.set_cons_zero, List.set_cons_succ]
  refine H_put (i := 11) 128 (v := Ptr pp) rfl rfl (by kernel_rfl) (by kernel_rfl) (by kernel_rfl) (fun _ _ _ h => h) (Or.inl ⟨by rfl, fun w' hw' => ?_⟩) hS ?_
  · go_simp
  simp only [Act.put, List.setIfInBounds_toArray, List.set_cons_zero, List.set_cons_succ]
  refine H_put (i := 12) 129 (v := Ptr pp) rfl rfl (by kernel_rfl) (by kernel_rfl) (by kernel_rfl) (fun _ _ _ h => h) (Or.inl ⟨by rfl, fun w' hw' => ?_⟩) hS ?_
  · go_simp
  simp only [Act.put, List.setIfInBounds_toArray, List.set_cons_zero, List.set_cons_succ]
  refine H_put (i := 13) 130 (v := .pointer (some ⟨pp, 1, none⟩)) rfl rfl (by kernel_rfl) (by kernel_rfl) (by kernel_rfl) (fun _ _ _ h => h) (Or.inl ⟨by rfl, fun w' hw' => ?_⟩) hS ?_
  · go_simp
  simp only [Act.put, List.setIfInBounds_toArray, List.set_cons_zero, List.set_cons_succ]
  refine H_put (i := 14) 131 (v := Ptr r) rfl rfl (by kernel_rfl) (by kernel_rfl) (by kernel_rfl) (fun _ _ _ h => h) (Or.inl ⟨by rfl, fun w' hw' => ?_⟩) hS ?_
  · have c : w'.cell? ⟨pp, 1, none⟩ = some (Ptr r) := cellOf hw'.1 1; go_simp
  simp only [Act.put, List.setIfInBounds_toArray, List.set_cons_zero, List.set_cons_succ]
  refine H_put (i := 15) 132 (v := .pointer (some ⟨ab, 1, none⟩)) rfl rfl (by kernel_rfl) (by kernel_rfl) (by kernel_rfl) (fun _ _ _ h => h) (Or.inl ⟨by rfl, fun w' hw' => ?_⟩) hS ?_
  · go_simp
  simp only [Act.put, List.setIfInBounds_toArray, List.set_cons_zero, List.set_cons_succ]
  refine H_put (i := 16) 133 (v := .int .i64 n) rfl rfl (by kernel_rfl) (by kernel_rfl) (by kernel_rfl) (fun _ _ _ h => h) (Or.inl ⟨by rfl, fun w' hw' => ?_⟩) hS ?_
  · have c : w'.cell? ⟨ab, 1, none⟩ = some (.int .i64 n) := cellOf hw'.2 1; go_simp
  simp only [Act.put, List.setIfInBounds_toArray, List.set_cons_zero, List.set_cons_succ]
  refine H_put (i := 17) 134 (v := .pointer (some ⟨ab, 2, none⟩)) rfl rfl (by kernel_rfl) (by kernel_rfl) (by kernel_rfl) (fun _ _ _ h => h) (Or.inl ⟨by rfl, fun w' hw' => ?_⟩) hS ?_
  · go_simp
  simp only [Act.put, List.setIfInBounds_toArray, List.set_cons_zero, List.set_cons_succ]
  refine H_put (i := 18) 135 (v := .int .i64 p) rfl rfl (by kernel_rfl) (by kernel_rfl) (by kernel_rfl) (fun _ _ _ h => h) (Or.inl ⟨by rfl, fun w' hw' => ?_⟩) hS ?_
  · have c : w'.cell? ⟨ab, 2, none⟩ = some (.int .i64 p) := cellOf hw'.2 2; go_simp
  simp only [Act.put, List.setIfInBounds_toArray, List.set_cons_zero, List.set_cons_succ]
  refine H_put (i := 19) 136 (v := .pointer (some ⟨ab, 4, none⟩)) rfl rfl (by kernel_rfl) (by kernel_rfl) (by kernel_rfl) (fun _ _ _ h => h) (Or.inl ⟨by rfl, fun w' hw' => ?_⟩) hS ?_
  · go_simp
  simp only [Act.put, List.setIfInBounds_toArray, List.set_cons_zero, List.set_cons_succ]
  refine H_put (i := 20) 137 (v := .int .u8 (c.toNat : Int)) rfl rfl (by kernel_rfl) (by kernel_rfl) (by kernel_rfl) (fun _ _ _ h => h) (Or.inl ⟨by rfl, fun w' hw' => ?_⟩) hS ?_
  · have c : w'.cell? ⟨ab, 4, none⟩ = some (.int .u8 (c.toNat : Int)) := cellOf hw'.2 4; go_simp
  simp only [Act.put, List.setIfInBounds_toArray, List.set_cons_zero, List.set_cons_succ]
  refine H_call (i := 10) 127 28 #[Ptr d, .int .i64 n, .int .i64 p, .int .u8 (c.toNat : Int)] (by kernel_rfl) rfl rfl (by rfl) (by go_simp) (HC1.out) ?_
  rintro e w2 ⟨rfl, H2⟩
  have hS2 : (fun w' : World => w'.heap[pp]? = some (PB10 d r (Ptr l) (Ptr q)) ∧ w'.heap[ab]? = some (.cells (act10 3 n p fa fn fc c ka kn kc torn at_) 43 (0, 0))) _ := ⟨H2.out.other (pp, PB10 d r (Ptr l) (Ptr q)) (List.mem_cons_of_mem _ List.mem_cons_self), H2.out.other (ab, (.cells (act10 3 n p fa fn fc c ka kn kc torn at_) 43 (0, 0))) List.mem_cons_self⟩
  refine ⟨_, _, rfl, hS2, fun w' h => h, ?_⟩
  clear hS; have hS := hS2; clear hS2
  simp only [Act.put, List.setIfInBounds_toArray, List.set_cons_zero, List.set_cons_succ]
  refine H_call (i := 21) 138 29 #[Ptr r, .int .i64 n, .int .i64 p, .int .u8 (c.toNat : Int)] (by kernel_rfl) rfl rfl (by rfl) (by go_simp) (HC2.out w2 H2.out) ?_
  rintro e w3 ⟨rfl, H3⟩
  have hS2 : (fun w' : World => w'.heap[pp]? = some (PB10 d r (Ptr l) (Ptr q)) ∧ w'.heap[ab]? = some (.cells (act10 3 n p fa fn fc c ka kn kc torn at_) 43 (0, 0))) _ := ⟨H3.out.other (pp, PB10 d r (Ptr l) (Ptr q)) (List.mem_cons_of_mem _ List.mem_cons_self), H3.out.other (ab, (.cells (act10 3 n p fa fn fc c ka kn kc torn at_) 43 (0, 0))) List.mem_cons_self⟩
  refine ⟨_, _, rfl, hS2, fun w' h => h, ?_⟩
  clear hS; have hS := hS2; clear hS2
  simp only [Act.put, List.setIfInBounds_toArray, List.set_cons_zero, List.set_cons_succ]
  refine H_put (i := 22) 139 (v := .bool true) rfl rfl (by kernel_rfl) (by kernel_rfl) (by kernel_rfl) (fun _ _ _ h => h) (Or.inl ⟨by rfl, fun w' hw' => ?_⟩) hS ?_
  · go_simp
  simp only [Act.put, List.setIfInBounds_toArray, List.set_cons_zero, List.set_cons_succ]
  refine H_put (i := 23) 4 (v := .bool true) rfl rfl (by kernel_rfl) (by kernel_rfl) (by kernel_rfl) (fun _ _ _ h => h) (Or.inl ⟨by rfl, fun w' hw' => ?_⟩) hS ?_
  · go_simp
  simp only [Act.put, List.setIfInBounds_toArray, List.set_cons_zero, List.set_cons_succ]
  refine wpAnyH_done (by kernel_rfl) ?_ _
  clear hS
  go_wp2_with fail
  go_ret
  exact ⟨rfl, l, d, q, r, _, _, H3.out.fewer (fun x hx => List.mem_cons_of_mem _ hx), HF.out.spoil n p c⟩
end Go.Proofs.YtmmgfankbabfbaaDoor

/- Acts of a pair of masters: Save, by hand. -/
namespace Go.Proofs.YtmmgfankbabfbaaDoor
open Go.RowKit
set_option maxRecDepth 100000 in
set_option maxHeartbeats 4000000 in
theorem does10_other {w0 w : World} {pp l d q r n0 : Nat} {L : U.MS} {D : dSt} (h : MwE w0 w [(pp, PB10 d r (Ptr l) (Ptr q))] l d q r L L D D) (hpp : w0.heap.size ≤ pp) (hf : Fit10 L D n0) (hn0 : n0 ≤ 700) (hT : Tab w0) (k : Int) (hk : k < 0 ∨ 3 < k) (n p : Int) (fa : Option Addr) (fn fc : Nat) (ns : List Nat) (hns : ns.length = fn) (hfc : fn ≤ fc) (hfl : fn ≤ 9223372036854775807) (hF : ∀ k ∈ ns, k < 18446744073709551616) (hq : NQ w0 (fun k => k < w0.heap.size) ⟨fa, fc, ns⟩) (c : UInt8) (ka : Option Addr) (kn kc : Nat) (torn at_ : Int) :
    Calls Tryd.prog 11 #[Ptr pp, .agg (act10 k n p fa fn fc c ka kn kc torn at_)] w (PDo10 w0 pp (n0 + 11)) := by
  obtain ⟨ab, hab⟩ : ∃ ab, ab = w.heap.size := ⟨_, rfl⟩
  obtain ⟨wd, hwd⟩ : ∃ wd, wd = w.alloc (.cells (act10 k n p fa fn fc c ka kn kc torn at_) 43 (0, 0)) := ⟨_, rfl⟩
  have HP := hid (show MwE w0 wd [(ab, (.cells (act10 k n p fa fn fc c ka kn kc torn at_) 43 (0, 0))), (pp, PB10 d r (Ptr l) (Ptr q))] l d q r L L D D by rw [hwd, hab]; exact h.more ((Touch.refl _ w).alloc _) w.heap.size _ (heap_alloc_new w _) (Nat.le_refl _))
  have HF := hid hf
  have HPP := hid hpp
  have HTb := hid hT
  have HN0 := hid hn0
  have HPx := hid (HP.out.other (pp, PB10 d r (Ptr l) (Ptr q)) (List.mem_cons_of_mem _ List.mem_cons_self))
  have HAx := hid (HP.out.other (ab, (.cells (act10 k n p fa fn fc c ka kn kc torn at_) 43 (0, 0))) List.mem_cons_self)
  obtain ⟨fs, hfs⟩ : ∃ fs, fs = ns.take 40 := ⟨_, rfl⟩
  obtain ⟨fm, hfm⟩ : ∃ fm, fm = fs.length := ⟨_, rfl⟩
  have HFm1 := hid (show ¬ 40 < fn → fm = fn by rw [hfm, hfs, List.length_take, hns]; omega)
  have HFm2 := hid (show 40 < fn → fm = 40 by rw [hfm, hfs, List.length_take, hns]; omega)
  have HFs := hid (And.intro (show NQ w0 (fun k => k < w0.heap.size) ⟨fa, fc, fs⟩ by rw [hfs]; exact nq_take hq) (And.intro (show ∀ k ∈ fs, k < 18446744073709551616 by rw [hfs]; exact fun k hk => hF k (List.mem_of_mem_take hk)) hfm.symm))
  have e3 : (w.alloc (.cells (act10 k n p fa fn fc c ka kn kc torn at_) 43 (0, 0))).cell? ⟨w.heap.size, 3, none⟩ = some (.slice fa fn fc) := cellOf (heap_alloc_new w _) 3
  clear h hpp hf hT hq hF hns hfs hfm
  go_enter Tryd.func11, Tryd.ntmps11
  go_upto_if 15 with fail
  rw [← hab, ← hwd]
  clear hab hwd e3
  go_cut [5] (fun t5 wx => t5 = .slice fa fm fc ∧ wx = wd)
  case first =>
    by_cases hl : 40 < fn
    · have hl2 : (40 : Int) < (fn : Int) := by omega
      have hl3 : 40 ≤ fc := by omega
      go_wp2_with fail
      go_meet
      exact ⟨by rw [HFm2.out hl], rfl⟩
    · have hl2 : ¬ (40 : Int) < (fn : Int) := by omega
      go_wp2_with fail
      go_meet
      exact ⟨by rw [HFm1.out hl], rfl⟩
  case rest =>
  obtain ⟨rfl, hwc⟩ := hcut
  rw [hwc]
  clear hwc hfc hfl HFm1 HFm2
  have g0 : wd.cell? ⟨ab, 0, none⟩ = some (.int .i64 k) := cellOf HAx.out 0
  have k0 : (k == 0) = false := by simp; omega
  have k1 : (k == 1) = false := by simp; omega
  have k2 : (k == 2) = false := by simp; omega
  have k3 : (k == 3) = false := by simp; omega
  obtain ⟨z, hz⟩ : ∃ z, z = savE L fs n D := ⟨_, rfl⟩
  have HC1 := hid (show Calls Tryd.prog 16 #[Ptr l, .slice fa fm fc, .int .i64 n] wd.drew (PMw w0 [(ab, (.cells (act10 k n p fa fn fc c ka kn kc torn at_) 43 (0, 0))), (pp, PB10 d r (Ptr l) (Ptr q))] l d q r (savM L fs n D) L (savD L fs n D) D (.int .i64 z)) by rw [hz]; exact mw_save (HP.out.adds (Touch.refl _ wd).drew) HF.out.ok HF.out.dok (by have := HN0.out; omega) HF.out.fits (by have := HF.out.size; omega) HTb.out fa fm fc fs HFs.out.2.2 HFs.out.2.1 HFs.out.1 n)
  have HC2 := hid (fun (w2 : World) (h2 : MwE w0 w2 [(ab, (.cells (act10 k n p fa fn fc c ka kn kc torn at_) 43 (0, 0))), (pp, PB10 d r (Ptr l) (Ptr q))] l d q r (savM L fs n D) L (savD L fs n D) D) => show Calls Tryd.prog 25 #[Ptr q, .slice fa fm fc, .int .i64 n] w2 (PMw w0 [(ab, (.cells (act10 k n p fa fn fc c ka kn kc torn at_) 43 (0, 0))), (pp, PB10 d r (Ptr l) (Ptr q))] l d q r (savM L fs n D) (savM L fs n D) (savD L fs n D) (savD L fs n D) (.int .i64 z)) by rw [hz]; exact mq_save h2 HF.out.dok (by have := HN0.out; omega) HF.out.fits (by have := HF.out.size; omega) fa fm fc fs HFs.out.2.2 HFs.out.2.1 HFs.out.1 n)
  clear hz
  go_upto_region 19 with fail
  refine H_begin (S := fun w' : World => w'.heap[pp]? = some (PB10 d r (Ptr l) (Ptr q)) ∧ w'.heap[ab]? = some (.cells (act10 k n p fa fn fc c ka kn kc torn at_) 43 (0, 0))) (by kernel_rfl) ?_
  have hS : (fun w' : World => w'.heap[pp]? = some (PB10 d r (Ptr l) (Ptr q)) ∧ w'.heap[ab]? = some (.cells (act10 k n p fa fn fc c ka kn kc torn at_) 43 (0, 0))) wd.drew := ⟨HP.out.other (pp, PB10 d r (Ptr l) (Ptr q)) (List.mem_cons_of_mem _ List.mem_cons_self), HP.out.other (ab, (.cells (act10 k n p fa fn fc c ka kn kc torn at_) 43 (0, 0))) List.mem_cons_self⟩
  refine H_put (i := 0) 140 (v := Ptr pp) rfl rfl (by kernel_rfl) (by kernel_rfl) (by kernel_rfl) (fun _ _ _ h => h) (Or.inl ⟨by rfl, fun w' hw' => ?_⟩) hS ?_
  · go_simp
  simp only [Act.put, List.setIfInBounds_toArray, List.set_cons_zero, List.set_cons_succ]
  refine H_put (i := 1) 141 (v := Ptr pp) rfl rfl (by kernel_rfl) (by kernel_rfl) (by kernel_rfl) (fun _ _ _ h => h) (Or.inl ⟨by rfl, fun w' hw' => ?_⟩) hS ?_
  · go_simp
  simp only [Act.put, List.setIfInBounds_toArray, List.set_cons_zero, List.set_cons_succ]
  refine H_put (i := 2) 142 (v := .pointer (some ⟨pp, 2, none⟩)) rfl rfl (by kernel_rfl) (by kernel_rfl) (by kernel_rfl) (fun _ _ _ h => h) (Or.inl ⟨by rfl, fun w' hw' => ?_⟩) hS ?_
  · go_simp
  simp only [Act.put, List.setIfInBounds_toArray, List.set_cons_zero, List.set_cons_succ]
  refine H_put (i := 3) 143 (v := Ptr l) rfl rfl (by kernel_rfl) (by kernel_rfl) (by kernel_rfl) (fun _ _ _ h => h) (Or.inl ⟨by rfl, fun w' hw' => ?_⟩) hS ?_
  · have c : w'.cell? ⟨pp, 2, none⟩ = some (Ptr l) := cellOf hw'.1 2; go_simp
  simp only [Act.put, List.setIfInBounds_toArray, List.set_cons_zero, List.set_cons_succ]
  refine H_put (i := 4) 144 (v := .slice fa fm fc) rfl rfl (by kernel_rfl) (by kernel_rfl) (by kernel_rfl) (fun _ _ _ h => h) (Or.inl ⟨by rfl, fun w' hw' => ?_⟩) hS ?_
  · go_simp
  simp only [Act.put, List.setIfInBounds_toArray, List.set_cons_zero, List.set_cons_succ]
  refine H_put (i := 5) 145 (v := .pointer (some ⟨ab, 1, none⟩)) rfl rfl (by kernel_rfl) (by kernel_rfl) (by kernel_rfl) (fun _ _ _ h => h) (Or.inl ⟨by rfl, fun w' hw' => ?_⟩) hS ?_
  · go_simp
  simp only [Act.put, List.setIfInBounds_toArray, List.set_cons_zero, List.set_cons_succ]
  refine H_put (i := 6) 146 (v := .int .i64 n) rfl rfl (by kernel_rfl) (by kernel_rfl) (by kernel_rfl) (fun _ _ _ h => h) (Or.inl ⟨by rfl, fun w' hw' => ?_⟩) hS ?_
  · have c : w'.cell? ⟨ab, 1, none⟩ = some (.int .i64 n) := cellOf hw'.2 1; go_simp
  simp only [Act.put, List.setIfInBounds_toArray, List.set_cons_zero, List.set_cons_succ]
  refine H_put (i := 8) 148 (v := Ptr pp) rfl rfl (by kernel_rfl) (by kernel_rfl) (by kernel_rfl) (fun _ _ _ h => h) (Or.inl ⟨by rfl, fun w' hw' => ?_⟩) hS ?_
  · go_simp
  simp only [Act.put, List.setIfInBounds_toArray, List.set_cons_zero, List.set_cons_succ]
  refine H_put (i := 9) 149 (v := Ptr pp) rfl rfl (by kernel_rfl) (by kernel_rfl) (by kernel_rfl) (fun _ _ _ h => h) (Or.inl ⟨by rfl, fun w' hw' => ?_⟩) hS ?_
  · go_simp
  simp only [Act.put, List.setIfInBounds_toArray, List.set_cons_zero, List.set_cons_succ]
  refine H_put (i := 10) 150 (v := .pointer (some ⟨pp, 3, none⟩)) rfl rfl (by kernel_rfl) (by kernel_rfl) (by kernel_rfl) (fun _ _ _ h => h) (Or.inl ⟨by rfl, fun w' hw' => ?_⟩) hS ?_
  · go_simp
  simp only [Act.put, List.setIfInBounds_toArray, List.set_cons_zero, List.set_cons_succ]
  refine H_put (i := 11) 151 (v := Ptr q) rfl rfl (by kernel_rfl) (by kernel_rfl) (by kernel_rfl) (fun _ _ _ h => h) (Or.inl ⟨by rfl, fun w' hw' => ?_⟩) hS ?_
  · have c : w'.cell? ⟨pp, 3, none⟩ = some (Ptr q) := cellOf hw'.1 3; go_simp
  simp only [Act.put, List.setIfInBounds_toArray, List.set_cons_zero, List.set_cons_succ]
  refine H_put (i := 12) 152 (v := .slice fa fm fc) rfl rfl (by kernel_rfl) (by kernel_rfl) (by kernel_rfl) (fun _ _ _ h => h) (Or.inl ⟨by rfl, fun w' hw' => ?_⟩) hS ?_
  · go_simp
  simp only [Act.put, List.setIfInBounds_toArray, List.set_cons_zero, List.set_cons_succ]
  refine H_put (i := 13) 153 (v := .pointer (some ⟨ab, 1, none⟩)) rfl rfl (by kernel_rfl) (by kernel_rfl) (by kernel_rfl) (fun _ _ _ h => h) (Or.inl ⟨by rfl, fun w' hw' => ?_⟩) hS ?_
  · go_simp
  simp only [Act.put, List.setIfInBounds_toArray, List.set_cons_zero, List.set_cons_succ]
  refine H_put (i := 14) 154 (v := .int .i64 n) rfl rfl (by kernel_rfl) (by kernel_rfl) (by kernel_rfl) (fun _ _ _ h => h) (Or.inl ⟨by rfl, fun w' hw' => ?_⟩) hS ?_
  · have c : w'.cell? ⟨ab, 1, none⟩ = some (.int .i64 n) := cellOf hw'.2 1; go_simp
  simp only [Act.put, List.setIfInBounds_toArray, List.set_cons_zero, List.set_cons_succ]
  refine H_call (i := 7) 147 16 #[Ptr l, .slice fa fm fc, .int .i64 n] (by kernel_rfl) rfl rfl (by rfl) (by go_simp) (HC1.out) ?_
  rintro e w2 ⟨rfl, H2⟩
  have hS2 : (fun w' : World => w'.heap[pp]? = some (PB10 d r (Ptr l) (Ptr q)) ∧ w'.heap[ab]? = some (.cells (act10 k n p fa fn fc c ka kn kc torn at_) 43 (0, 0))) _ := ⟨H2.out.other (pp, PB10 d r (Ptr l) (Ptr q)) (List.mem_cons_of_mem _ List.mem_cons_self), H2.out.other (ab, (.cells (act10 k n p fa fn fc c ka kn kc torn at_) 43 (0, 0))) List.mem_cons_self⟩
  refine ⟨_, _, rfl, hS2, fun w' h => h, ?_⟩
  clear hS; have hS := hS2; clear hS2
  simp only [Act.put, List.setIfInBounds_toArray, List.set_cons_zero, List.set_cons_succ]
  refine H_call (i := 15) 155 25 #[Ptr q, .slice fa fm fc, .int .i64 n] (by kernel_rfl) rfl rfl (by rfl) (by go_simp) (HC2.out w2 H2.out) ?_
  rintro e w3 ⟨rfl, H3⟩
  have hS2 : (fun w' : World => w'.heap[pp]? = some (PB10 d r (Ptr l) (Ptr q)) ∧ w'.heap[ab]? = some (.cells (act10 k n p fa fn fc c ka kn kc torn at_) 43 (0, 0))) _ := ⟨H3.out.other (pp, PB10 d r (Ptr l) (Ptr q)) (List.mem_cons_of_mem _ List.mem_cons_self), H3.out.other (ab, (.cells (act10 k n p fa fn fc c ka kn kc torn at_) 43 (0, 0))) List.mem_cons_self⟩
  refine ⟨_, _, rfl, hS2, fun w' h => h, ?_⟩
  clear hS; have hS := hS2; clear hS2
  simp only [Act.put, List.setIfInBounds_toArray, List.set_cons_zero, List.set_cons_succ]
  refine H_put (i := 16) 156 (v := .bool true) rfl rfl (by kernel_rfl) (by kernel_rfl) (by kernel_rfl) (fun _ _ _ h => h) (Or.inl ⟨by rfl, fun w' hw' => ?_⟩) hS ?_
  · go_simp
  simp only [Act.put, List.setIfInBounds_toArray, List.set_cons_zero, List.set_cons_succ]
  refine H_put (i := 17) 4 (v := .bool true) rfl rfl (by kernel_rfl) (by kernel_rfl) (by kernel_rfl) (fun _ _ _ h => h) (Or.inl ⟨by rfl, fun w' hw' => ?_⟩) hS ?_
  · go_simp
  simp only [Act.put, List.setIfInBounds_toArray, List.set_cons_zero, List.set_cons_succ]
  refine wpAnyH_done (by kernel_rfl) ?_ _
  clear hS
  go_wp2_with fail
  go_ret
  exact ⟨rfl, l, d, q, r, _, _, H3.out.fewer (fun x hx => List.mem_cons_of_mem _ hx), HF.out.save fs HFs.out.2.1 n⟩
end Go.Proofs.YtmmgfankbabfbaaDoor

/- Acts of a pair of masters: Save. -/
namespace Go.Proofs.YtmmgfankbabfbaaDoor
open Go.RowKit
set_option maxRecDepth 100000 in
set_option maxHeartbeats 4000000 in
theorem does10_save {w0 w : World} {pp l d q r n0 : Nat} {L : U.MS} {D : dSt} (h : MwE w0 w [(pp, PB10 d r (Ptr l) (Ptr q))] l d q r L L D D) (hpp : w0.heap.size ≤ pp) (hf : Fit10 L D n0) (hn0 : n0 ≤ 700) (hT : Tab w0) (n p : Int) (fa : Option Addr) (fn fc : Nat) (ns : List Nat) (hns : ns.length = fn) (hfc : fn ≤ fc) (hfl : fn ≤ 9223372036854775807) (hF : ∀ k ∈ ns, k < 18446744073709551616) (hq : NQ w0 (fun k => k < w0.heap.size) ⟨fa, fc, ns⟩) (c : UInt8) (ka : Option Addr) (kn kc : Nat) (torn at_ : Int) :
    Calls Tryd.prog 11 #[Ptr pp, .agg (act10 0 n p fa fn fc c ka kn kc torn at_)] w (PDo10 w0 pp (n0 + 11)) := by
  obtain ⟨ab, hab⟩ : ∃ ab, ab = w.heap.size := ⟨_, rfl⟩
  obtain ⟨wd, hwd⟩ : ∃ wd, wd = w.alloc (.cells (act10 0 n p fa fn fc c ka kn kc torn at_) 43 (0, 0)) := ⟨_, rfl⟩
  have HP := hid (show MwE w0 wd [(ab, (.cells (act10 0 n p fa fn fc c ka kn kc torn at_) 43 (0, 0))), (pp, PB10 d r (Ptr l) (Ptr q))] l d q r L L D D by rw [hwd, hab]; exact h.more ((Touch.refl _ w).alloc _) w.heap.size _ (heap_alloc_new w _) (Nat.le_refl _))
  have HF := hid hf
  have HPP := hid hpp
  have HTb := hid hT
  have HN0 := hid hn0
  have HPx := hid (HP.out.other (pp, PB10 d r (Ptr l) (Ptr q)) (List.mem_cons_of_mem _ List.mem_cons_self))
  have HAx := hid (HP.out.other (ab, (.cells (act10 0 n p fa fn fc c ka kn kc torn at_) 43 (0, 0))) List.mem_cons_self)
  obtain ⟨fs, hfs⟩ : ∃ fs, fs = ns.take 40 := ⟨_, rfl⟩
  obtain ⟨fm, hfm⟩ : ∃ fm, fm = fs.length := ⟨_, rfl⟩
  have HFm1 := hid (show ¬ 40 < fn → fm = fn by rw [hfm, hfs, List.length_take, hns]; omega)
  have HFm2 := hid (show 40 < fn → fm = 40 by rw [hfm, hfs, List.length_take, hns]; omega)
  have HFs := hid (And.intro (show NQ w0 (fun k => k < w0.heap.size) ⟨fa, fc, fs⟩ by rw [hfs]; exact nq_take hq) (And.intro (show ∀ k ∈ fs, k < 18446744073709551616 by rw [hfs]; exact fun k hk => hF k (List.mem_of_mem_take hk)) hfm.symm))
  have e3 : (w.alloc (.cells (act10 0 n p fa fn fc c ka kn kc torn at_) 43 (0, 0))).cell? ⟨w.heap.size, 3, none⟩ = some (.slice fa fn fc) := cellOf (heap_alloc_new w _) 3
  clear h hpp hf hT hq hF hns hfs hfm
  go_enter Tryd.func11, Tryd.ntmps11
  go_upto_if 15 with fail
  rw [← hab, ← hwd]
  clear hab hwd e3
  go_cut [5] (fun t5 wx => t5 = .slice fa fm fc ∧ wx = wd)
  case first =>
    by_cases hl : 40 < fn
    · have hl2 : (40 : Int) < (fn : Int) := by omega
      have hl3 : 40 ≤ fc := by omega
      go_wp2_with fail
      go_meet
      exact ⟨by rw [HFm2.out hl], rfl⟩
    · have hl2 : ¬ (40 : Int) < (fn : Int) := by omega
      go_wp2_with fail
      go_meet
      exact ⟨by rw [HFm1.out hl], rfl⟩
  case rest =>
  obtain ⟨rfl, hwc⟩ := hcut
  rw [hwc]
  clear hwc hfc hfl HFm1 HFm2
  have g0 : wd.cell? ⟨ab, 0, none⟩ = some (.int .i64 0) := cellOf HAx.out 0
  obtain ⟨ep, hep⟩ : ∃ ep, ep = L.lat.ep := ⟨_, rfl⟩
  obtain ⟨fl, hfl2⟩ : ∃ fl, fl = L.lat.fs.length := ⟨_, rfl⟩
  have hepb : ep ≤ 1000000000 := by rw [hep]; exact HF.out.ok.lat.ep
  have HLt := hid (mq_latest (HP.out.adds (Touch.refl _ wd).drew))
  unfold PRLat at HLt
  rw [← hep, ← hfl2] at HLt
  obtain ⟨m4, hm4⟩ : ∃ m4, m4 = more4 n := ⟨_, rfl⟩
  have hm4b : m4 ≤ 3 := by rw [hm4]; unfold more4; omega
  obtain ⟨un, hun⟩ : ∃ un, un = IntKind.u64.wrap n := ⟨_, rfl⟩
  have hmw : wrap64 (un.tmod 4) = (m4 : Int) := by rw [hm4, hun]; exact more4_wrap n
  have hm4c : un.tmod 4 = (m4 : Int) := by
    have h1 : IntKind.u64.wrap n = n % 18446744073709551616 := by rw [IntKind.wrap_u64]
    have h0 : 0 ≤ n % 18446744073709551616 := Int.emod_nonneg _ (by decide)
    rw [hm4, hun, h1, Int.tmod_eq_emod_of_nonneg h0]
    unfold more4
    omega
  have hfl := fun z a n c w => field_rslot z a n c w
  clear hep hfl2 hm4
  go_upto_region 6 with fail
  refine H_begin (S := fun w' : World => Adds wd w') (by kernel_rfl) ?_
  have hS : (fun w' : World => Adds wd w') wd.drew := (Touch.refl _ wd).drew
  refine H_put (i := 0) 22 (v := Ptr pp) rfl rfl (by kernel_rfl) (by kernel_rfl) (by kernel_rfl) (fun _ _ _ h => h) (Or.inl ⟨by rfl, fun w' hw' => ?_⟩) hS ?_
  · go_simp
  simp only [Act.put, List.setIfInBounds_toArray, List.set_cons_zero, List.set_cons_succ]
  refine H_put (i := 1) 23 (v := Ptr pp) rfl rfl (by kernel_rfl) (by kernel_rfl) (by kernel_rfl) (fun _ _ _ h => h) (Or.inl ⟨by rfl, fun w' hw' => ?_⟩) hS ?_
  · go_simp
  simp only [Act.put, List.setIfInBounds_toArray, List.set_cons_zero, List.set_cons_succ]
  refine H_put (i := 2) 24 (v := .pointer (some ⟨pp, 3, none⟩)) rfl rfl (by kernel_rfl) (by kernel_rfl) (by kernel_rfl) (fun _ _ _ h => h) (Or.inl ⟨by rfl, fun w' hw' => ?_⟩) hS ?_
  · go_simp
  simp only [Act.put, List.setIfInBounds_toArray, List.set_cons_zero, List.set_cons_succ]
  refine H_put (i := 3) 25 (v := Ptr q) rfl rfl (by kernel_rfl) (by kernel_rfl) (by kernel_rfl) (fun _ _ _ h => h) (Or.inl ⟨by rfl, fun w' hw' => ?_⟩) hS ?_
  · have c : w'.cell? ⟨pp, 3, none⟩ = some (Ptr q) := cellOf (hw'.at' HPx.out id) 3; go_simp
  simp only [Act.put, List.setIfInBounds_toArray, List.set_cons_zero, List.set_cons_succ]
  refine H_put (i := 6) 28 (v := .pointer (some ⟨ab, 1, none⟩)) rfl rfl (by kernel_rfl) (by kernel_rfl) (by kernel_rfl) (fun _ _ _ h => h) (Or.inl ⟨by rfl, fun w' hw' => ?_⟩) hS ?_
  · go_simp
  simp only [Act.put, List.setIfInBounds_toArray, List.set_cons_zero, List.set_cons_succ]
  refine H_put (i := 7) 29 (v := .int .i64 n) rfl rfl (by kernel_rfl) (by kernel_rfl) (by kernel_rfl) (fun _ _ _ h => h) (Or.inl ⟨by rfl, fun w' hw' => ?_⟩) hS ?_
  · have c : w'.cell? ⟨ab, 1, none⟩ = some (.int .i64 n) := cellOf (hw'.at' HAx.out id) 1; go_simp
  simp only [Act.put, List.setIfInBounds_toArray, List.set_cons_zero, List.set_cons_succ]
  refine H_put (i := 8) 30 (v := .int .u64 un) rfl rfl (by kernel_rfl) (by kernel_rfl) (by kernel_rfl) (fun _ _ _ h => h) (Or.inl ⟨by rfl, fun w' hw' => ?_⟩) hS ?_
  · rw [hun]; go_simp
  simp only [Act.put, List.setIfInBounds_toArray, List.set_cons_zero, List.set_cons_succ]
  refine H_put (i := 9) 31 (v := .int .u64 (m4 : Int)) rfl rfl (by kernel_rfl) (by kernel_rfl) (by kernel_rfl) (fun _ _ _ h => h) (Or.inl ⟨by rfl, fun w' hw' => ?_⟩) hS ?_
  · rw [← hm4c]; go_simp
  simp only [Act.put, List.setIfInBounds_toArray, List.set_cons_zero, List.set_cons_succ]
  refine H_put (i := 10) 32 (v := .int .i64 (m4 : Int)) rfl rfl (by kernel_rfl) (by kernel_rfl) (by kernel_rfl) (fun _ _ _ h => h) (Or.inl ⟨by rfl, fun w' hw' => ?_⟩) hS ?_
  · go_simp; rw [IntKind.wrap_i64]; omega
  simp only [Act.put, List.setIfInBounds_toArray, List.set_cons_zero, List.set_cons_succ]
  obtain ⟨OQ9, hLt⟩ := HLt.out
  refine H_call (i := 4) 26 24 #[Ptr q] (by kernel_rfl) rfl rfl (by rfl) (by go_simp) hLt ?_
  rintro e w1 ⟨a1, c1, rfl, H1⟩
  have HA1 := hid ((Touch.refl _ wd).drew.trans H1.out.2)
  have hS2 : (fun w' : World => Adds wd w') _ := HA1.out
  refine ⟨_, _, rfl, hS2, fun w' h => h, ?_⟩
  clear hS hLt; have hS := hS2; clear hS2
  simp only [Act.put, List.setIfInBounds_toArray, List.set_cons_zero, List.set_cons_succ]
  refine H_put (i := 5) 27 (v := .int .i64 (ep : Int)) rfl rfl (by kernel_rfl) (by kernel_rfl) (by kernel_rfl) (fun _ _ _ h => h) (Or.inl ⟨by rfl, fun w' hw' => ?_⟩) hS ?_
  · go_simp
  simp only [Act.put, List.setIfInBounds_toArray, List.set_cons_zero, List.set_cons_succ]
  refine H_put (i := 11) 33 (v := .int .i64 ((ep : Int) + (m4 : Int))) rfl rfl (by kernel_rfl) (by kernel_rfl) (by kernel_rfl) (fun _ _ _ h => h) (Or.inl ⟨by rfl, fun w' hw' => ?_⟩) hS ?_
  · go_simp; rw [IntKind.wrap_i64]; omega
  simp only [Act.put, List.setIfInBounds_toArray, List.set_cons_zero, List.set_cons_succ]
  refine H_put (i := 12) 6 (v := .int .i64 ((ep : Int) + (m4 : Int))) rfl rfl (by kernel_rfl) (by kernel_rfl) (by kernel_rfl) (fun _ _ _ h => h) (Or.inl ⟨by rfl, fun w' hw' => ?_⟩) hS ?_
  · go_simp
  simp only [Act.put, List.setIfInBounds_toArray, List.set_cons_zero, List.set_cons_succ]
  refine wpAnyH_done (by kernel_rfl) ?_ _
  clear hS
  have HPo := HP
  clear HP HLt hmw hm4c hun H1
  have HP := hid (HPo.out.adds HA1.out)
  obtain ⟨ee, hee⟩ : ∃ ee, ee = (ep : Int) + (m4 : Int) := ⟨_, rfl⟩
  rw [← hee]
  clear hee hepb hm4b
  obtain ⟨z, hz⟩ : ∃ z, z = savE L fs ee D := ⟨_, rfl⟩
  have HC1 := hid (show Calls Tryd.prog 16 #[Ptr l, .slice fa fm fc, .int .i64 ee] w1.drew (PMw w0 [(ab, (.cells (act10 0 n p fa fn fc c ka kn kc torn at_) 43 (0, 0))), (pp, PB10 d r (Ptr l) (Ptr q))] l d q r (savM L fs ee D) L (savD L fs ee D) D (.int .i64 z)) by rw [hz]; exact mw_save (HP.out.adds (Touch.refl _ w1).drew) HF.out.ok HF.out.dok (by have := HN0.out; omega) HF.out.fits (by have := HF.out.size; omega) HTb.out fa fm fc fs HFs.out.2.2 HFs.out.2.1 HFs.out.1 ee)
  have HC2 := hid (fun (w2 : World) (h2 : MwE w0 w2 [(ab, (.cells (act10 0 n p fa fn fc c ka kn kc torn at_) 43 (0, 0))), (pp, PB10 d r (Ptr l) (Ptr q))] l d q r (savM L fs ee D) L (savD L fs ee D) D) => show Calls Tryd.prog 25 #[Ptr q, .slice fa fm fc, .int .i64 ee] w2 (PMw w0 [(ab, (.cells (act10 0 n p fa fn fc c ka kn kc torn at_) 43 (0, 0))), (pp, PB10 d r (Ptr l) (Ptr q))] l d q r (savM L fs ee D) (savM L fs ee D) (savD L fs ee D) (savD L fs ee D) (.int .i64 z)) by rw [hz]; exact mq_save h2 HF.out.dok (by have := HN0.out; omega) HF.out.fits (by have := HF.out.size; omega) fa fm fc fs HFs.out.2.2 HFs.out.2.1 HFs.out.1 ee)
  clear hz
  go_upto_region 7 with fail
  refine H_begin (S := fun w' : World => w'.heap[pp]? = some (PB10 d r (Ptr l) (Ptr q)) ∧ w'.heap[ab]? = some (.cells (act10 0 n p fa fn fc c ka kn kc torn at_) 43 (0, 0))) (by kernel_rfl) ?_
  have hS : (fun w' : World => w'.heap[pp]? = some (PB10 d r (Ptr l) (Ptr q)) ∧ w'.heap[ab]? = some (.cells (act10 0 n p fa fn fc c ka kn kc torn at_) 43 (0, 0))) w1.drew := ⟨HP.out.other (pp, PB10 d r (Ptr l) (Ptr q)) (List.mem_cons_of_mem _ List.mem_cons_self), HP.out.other (ab, (.cells (act10 0 n p fa fn fc c ka kn kc torn at_) 43 (0, 0))) List.mem_cons_self⟩
  refine H_put (i := 0) 34 (v := Ptr pp) rfl rfl (by kernel_rfl) (by kernel_rfl) (by kernel_rfl) (fun _ _ _ h => h) (Or.inl ⟨by rfl, fun w' hw' => ?_⟩) hS ?_
  · go_simp
  simp only [Act.put, List.setIfInBounds_toArray, List.set_cons_zero, List.set_cons_succ]
  refine H_put (i := 1) 35 (v := Ptr pp) rfl rfl (by kernel_rfl) (by kernel_rfl) (by kernel_rfl) (fun _ _ _ h => h) (Or.inl ⟨by rfl, fun w' hw' => ?_⟩) hS ?_
  · go_simp
  simp only [Act.put, List.setIfInBounds_toArray, List.set_cons_zero, List.set_cons_succ]
  refine H_put (i := 2) 36 (v := .pointer (some ⟨pp, 2, none⟩)) rfl rfl (by kernel_rfl) (by kernel_rfl) (by kernel_rfl) (fun _ _ _ h => h) (Or.inl ⟨by rfl, fun w' hw' => ?_⟩) hS ?_
  · go_simp
  simp only [Act.put, List.setIfInBounds_toArray, List.set_cons_zero, List.set_cons_succ]
  refine H_put (i := 3) 37 (v := Ptr l) rfl rfl (by kernel_rfl) (by kernel_rfl) (by kernel_rfl) (fun _ _ _ h => h) (Or.inl ⟨by rfl, fun w' hw' => ?_⟩) hS ?_
  · have c : w'.cell? ⟨pp, 2, none⟩ = some (Ptr l) := cellOf hw'.1 2; go_simp
  simp only [Act.put, List.setIfInBounds_toArray, List.set_cons_zero, List.set_cons_succ]
  refine H_put (i := 4) 38 (v := .slice fa fm fc) rfl rfl (by kernel_rfl) (by kernel_rfl) (by kernel_rfl) (fun _ _ _ h => h) (Or.inl ⟨by rfl, fun w' hw' => ?_⟩) hS ?_
  · go_simp
  simp only [Act.put, List.setIfInBounds_toArray, List.set_cons_zero, List.set_cons_succ]
  refine H_put (i := 5) 39 (v := .int .i64 ee) rfl rfl (by kernel_rfl) (by kernel_rfl) (by kernel_rfl) (fun _ _ _ h => h) (Or.inl ⟨by rfl, fun w' hw' => ?_⟩) hS ?_
  · go_simp
  simp only [Act.put, List.setIfInBounds_toArray, List.set_cons_zero, List.set_cons_succ]
  refine H_put (i := 7) 41 (v := Ptr pp) rfl rfl (by kernel_rfl) (by kernel_rfl) (by kernel_rfl) (fun _ _ _ h => h) (Or.inl ⟨by rfl, fun w' hw' => ?_⟩) hS ?_
  · go_simp
  simp only [Act.put, List.setIfInBounds_toArray, List.set_cons_zero, List.set_cons_succ]
  refine H_put (i := 8) 42 (v := Ptr pp) rfl rfl (by kernel_rfl) (by kernel_rfl) (by kernel_rfl) (fun _ _ _ h => h) (Or.inl ⟨by rfl, fun w' hw' => ?_⟩) hS ?_
  · go_simp
  simp only [Act.put, List.setIfInBounds_toArray, List.set_cons_zero, List.set_cons_succ]
  refine H_put (i := 9) 43 (v := .pointer (some ⟨pp, 3, none⟩)) rfl rfl (by kernel_rfl) (by kernel_rfl) (by kernel_rfl) (fun _ _ _ h => h) (Or.inl ⟨by rfl, fun w' hw' => ?_⟩) hS ?_
  · go_simp
  simp only [Act.put, List.setIfInBounds_toArray, List.set_cons_zero, List.set_cons_succ]
  refine H_put (i := 10) 44 (v := Ptr q) rfl rfl (by kernel_rfl) (by kernel_rfl) (by kernel_rfl) (fun _ _ _ h => h) (Or.inl ⟨by rfl, fun w' hw' => ?_⟩) hS ?_
  · have c : w'.cell? ⟨pp, 3, none⟩ = some (Ptr q) := cellOf hw'.1 3; go_simp
  simp only [Act.put, List.setIfInBounds_toArray, List.set_cons_zero, List.set_cons_succ]
  refine H_put (i := 11) 45 (v := .slice fa fm fc) rfl rfl (by kernel_rfl) (by kernel_rfl) (by kernel_rfl) (fun _ _ _ h => h) (Or.inl ⟨by rfl, fun w' hw' => ?_⟩) hS ?_
  · go_simp
  simp only [Act.put, List.setIfInBounds_toArray, List.set_cons_zero, List.set_cons_succ]
  refine H_put (i := 12) 46 (v := .int .i64 ee) rfl rfl (by kernel_rfl) (by kernel_rfl) (by kernel_rfl) (fun _ _ _ h => h) (Or.inl ⟨by rfl, fun w' hw' => ?_⟩) hS ?_
  · go_simp
  simp only [Act.put, List.setIfInBounds_toArray, List.set_cons_zero, List.set_cons_succ]
  refine H_call (i := 6) 40 16 #[Ptr l, .slice fa fm fc, .int .i64 ee] (by kernel_rfl) rfl rfl (by rfl) (by go_simp) (HC1.out) ?_
  rintro e w2 ⟨rfl, H2⟩
  have hS2 : (fun w' : World => w'.heap[pp]? = some (PB10 d r (Ptr l) (Ptr q)) ∧ w'.heap[ab]? = some (.cells (act10 0 n p fa fn fc c ka kn kc torn at_) 43 (0, 0))) _ := ⟨H2.out.other (pp, PB10 d r (Ptr l) (Ptr q)) (List.mem_cons_of_mem _ List.mem_cons_self), H2.out.other (ab, (.cells (act10 0 n p fa fn fc c ka kn kc torn at_) 43 (0, 0))) List.mem_cons_self⟩
  refine ⟨_, _, rfl, hS2, fun w' h => h, ?_⟩
  clear hS; have hS := hS2; clear hS2
  simp only [Act.put, List.setIfInBounds_toArray, List.set_cons_zero, List.set_cons_succ]
  refine H_call (i := 13) 47 25 #[Ptr q, .slice fa fm fc, .int .i64 ee] (by kernel_rfl) rfl rfl (by rfl) (by go_simp) (HC2.out w2 H2.out) ?_
  rintro e w3 ⟨rfl, H3⟩
  have hS2 : (fun w' : World => w'.heap[pp]? = some (PB10 d r (Ptr l) (Ptr q)) ∧ w'.heap[ab]? = some (.cells (act10 0 n p fa fn fc c ka kn kc torn at_) 43 (0, 0))) _ := ⟨H3.out.other (pp, PB10 d r (Ptr l) (Ptr q)) (List.mem_cons_of_mem _ List.mem_cons_self), H3.out.other (ab, (.cells (act10 0 n p fa fn fc c ka kn kc torn at_) 43 (0, 0))) List.mem_cons_self⟩
  refine ⟨_, _, rfl, hS2, fun w' h => h, ?_⟩
  clear hS; have hS := hS2; clear hS2
  simp only [Act.put, List.setIfInBounds_toArray, List.set_cons_zero, List.set_cons_succ]
  refine H_put (i := 14) 48 (v := .bool true) rfl rfl (by kernel_rfl) (by kernel_rfl) (by kernel_rfl) (fun _ _ _ h => h) (Or.inl ⟨by rfl, fun w' hw' => ?_⟩) hS ?_
  · go_simp
  simp only [Act.put, List.setIfInBounds_toArray, List.set_cons_zero, List.set_cons_succ]
  refine H_put (i := 15) 4 (v := .bool true) rfl rfl (by kernel_rfl) (by kernel_rfl) (by kernel_rfl) (fun _ _ _ h => h) (Or.inl ⟨by rfl, fun w' hw' => ?_⟩) hS ?_
  · go_simp
  simp only [Act.put, List.setIfInBounds_toArray, List.set_cons_zero, List.set_cons_succ]
  refine wpAnyH_done (by kernel_rfl) ?_ _
  clear hS
  go_wp2_with fail
  go_ret
  exact ⟨rfl, l, d, q, r, _, _, H3.out.fewer (fun x hx => List.mem_cons_of_mem _ hx), HF.out.save fs HFs.out.2.1 ee⟩
end Go.Proofs.YtmmgfankbabfbaaDoor

/- Acts of a pair of masters: a loss that is refused. -/
namespace Go.Proofs.YtmmgfankbabfbaaDoor
open Go.RowKit
set_option maxRecDepth 100000 in
set_option maxHeartbeats 4000000 in
theorem does10_lose_bad {w0 w : World} {pp l d q r n0 : Nat} {L : U.MS} {D : dSt} (h : MwE w0 w [(pp, PB10 d r (Ptr l) (Ptr q))] l d q r L L D D) (hpp : w0.heap.size ≤ pp) (hf : Fit10 L D n0) (hn0 : n0 ≤ 700) (hT : Tab w0) (n p : Int) (fa : Option Addr) (fn fc : Nat) (ns : List Nat) (hns : ns.length = fn) (hfc : fn ≤ fc) (hfl : fn ≤ 9223372036854775807) (hF : ∀ k ∈ ns, k < 18446744073709551616) (hq : NQ w0 (fun k => k < w0.heap.size) ⟨fa, fc, ns⟩) (c : UInt8) (ka : Option Addr) (kn kc : Nat) (torn at_ : Int) (ht : 0 ≤ torn ∧ torn < (D.W.length : Int)) (hat : at_ < 0 ∨ 256 < at_) :
    Calls Tryd.prog 11 #[Ptr pp, .agg (act10 2 n p fa fn fc c ka kn kc torn at_)] w (PDo10 w0 pp (n0 + 11)) := by
  obtain ⟨ab, hab⟩ : ∃ ab, ab = w.heap.size := ⟨_, rfl⟩
  obtain ⟨wd, hwd⟩ : ∃ wd, wd = w.alloc (.cells (act10 2 n p fa fn fc c ka kn kc torn at_) 43 (0, 0)) := ⟨_, rfl⟩
  have HP := hid (show MwE w0 wd [(ab, (.cells (act10 2 n p fa fn fc c ka kn kc torn at_) 43 (0, 0))), (pp, PB10 d r (Ptr l) (Ptr q))] l d q r L L D D by rw [hwd, hab]; exact h.more ((Touch.refl _ w).alloc _) w.heap.size _ (heap_alloc_new w _) (Nat.le_refl _))
  have HF := hid hf
  have HPP := hid hpp
  have HTb := hid hT
  have HN0 := hid hn0
  have HPx := hid (HP.out.other (pp, PB10 d r (Ptr l) (Ptr q)) (List.mem_cons_of_mem _ List.mem_cons_self))
  have HAx := hid (HP.out.other (ab, (.cells (act10 2 n p fa fn fc c ka kn kc torn at_) 43 (0, 0))) List.mem_cons_self)
  obtain ⟨fs, hfs⟩ : ∃ fs, fs = ns.take 40 := ⟨_, rfl⟩
  obtain ⟨fm, hfm⟩ : ∃ fm, fm = fs.length := ⟨_, rfl⟩
  have HFm1 := hid (show ¬ 40 < fn → fm = fn by rw [hfm, hfs, List.length_take, hns]; omega)
  have HFm2 := hid (show 40 < fn → fm = 40 by rw [hfm, hfs, List.length_take, hns]; omega)
  have HFs := hid (And.intro (show NQ w0 (fun k => k < w0.heap.size) ⟨fa, fc, fs⟩ by rw [hfs]; exact nq_take hq) (And.intro (show ∀ k ∈ fs, k < 18446744073709551616 by rw [hfs]; exact fun k hk => hF k (List.mem_of_mem_take hk)) hfm.symm))
  have e3 : (w.alloc (.cells (act10 2 n p fa fn fc c ka kn kc torn at_) 43 (0, 0))).cell? ⟨w.heap.size, 3, none⟩ = some (.slice fa fn fc) := cellOf (heap_alloc_new w _) 3
  clear h hpp hf hT hq hF hns hfs hfm
  go_enter Tryd.func11, Tryd.ntmps11
  go_upto_if 15 with fail
  rw [← hab, ← hwd]
  clear hab hwd e3
  go_cut [5] (fun t5 wx => t5 = .slice fa fm fc ∧ wx = wd)
  case first =>
    by_cases hl : 40 < fn
    · have hl2 : (40 : Int) < (fn : Int) := by omega
      have hl3 : 40 ≤ fc := by omega
      go_wp2_with fail
      go_meet
      exact ⟨by rw [HFm2.out hl], rfl⟩
    · have hl2 : ¬ (40 : Int) < (fn : Int) := by omega
      go_wp2_with fail
      go_meet
      exact ⟨by rw [HFm1.out hl], rfl⟩
  case rest =>
  obtain ⟨rfl, hwc⟩ := hcut
  rw [hwc]
  clear hwc hfc hfl HFm1 HFm2
  have g0 : wd.cell? ⟨ab, 0, none⟩ = some (.int .i64 2) := cellOf HAx.out 0
  have hW : D.W.length ≤ 800 := by have := HF.out.dok.waits; omega
  have HL1 := hid (show Calls Tryd.prog 19 #[Ptr d, .agg #[.slice ka kn kc, .int .i64 torn, .int .i64 at_]] wd.drew (Adding (.tuple #[.pointer none, .int .i64 2]) wd.drew) by
    obtain ⟨OL, OD, OQ, OR, hh⟩ := HP.out.adds (Touch.refl _ wd).drew
    exact do_bad hh.wl.disk (by omega) HF.out.dok.size ka kn kc torn at_ ht hat)
  have HL2 := hid (fun w2 (hA : Adds wd w2) => show Calls Tryd.prog 27 #[Ptr r, .agg #[.slice ka kn kc, .int .i64 torn, .int .i64 at_]] w2 (Adding (.tuple #[.pointer none, .int .i64 2]) w2) by
    obtain ⟨OL, OD, OQ, OR, hh⟩ := HP.out.adds hA
    obtain ⟨hv, wv, hd, _⟩ := hh.ro
    exact (rlose_bad 0 r hv wv D ka kn kc torn at_ w2 hd ht hat).mono (fun _ _ x => x))
  clear ht hat
  go_upto_region 11 with fail
  refine H_begin (S := fun w' : World => Adds wd w') (by kernel_rfl) ?_
  have hS : (fun w' : World => Adds wd w') wd.drew := (Touch.refl _ wd).drew
  refine H_put (i := 0) 69 (v := Ptr pp) rfl rfl (by kernel_rfl) (by kernel_rfl) (by kernel_rfl) (fun _ _ _ h => h) (Or.inl ⟨by rfl, fun w' hw' => ?_⟩) hS ?_
  · go_simp
  simp only [Act.put, List.setIfInBounds_toArray, List.set_cons_zero, List.set_cons_succ]
  refine H_put (i := 1) 70 (v := Ptr pp) rfl rfl (by kernel_rfl) (by kernel_rfl) (by kernel_rfl) (fun _ _ _ h => h) (Or.inl ⟨by rfl, fun w' hw' => ?_⟩) hS ?_
  · go_simp
  simp only [Act.put, List.setIfInBounds_toArray, List.set_cons_zero, List.set_cons_succ]
  refine H_put (i := 2) 71 (v := .pointer (some ⟨pp, 0, none⟩)) rfl rfl (by kernel_rfl) (by kernel_rfl) (by kernel_rfl) (fun _ _ _ h => h) (Or.inl ⟨by rfl, fun w' hw' => ?_⟩) hS ?_
  · go_simp
  simp only [Act.put, List.setIfInBounds_toArray, List.set_cons_zero, List.set_cons_succ]
  refine H_put (i := 3) 72 (v := Ptr d) rfl rfl (by kernel_rfl) (by kernel_rfl) (by kernel_rfl) (fun _ _ _ h => h) (Or.inl ⟨by rfl, fun w' hw' => ?_⟩) hS ?_
  · have c : w'.cell? ⟨pp, 0, none⟩ = some (Ptr d) := cellOf ((hw').at' HPx.out id) 0; go_simp
  simp only [Act.put, List.setIfInBounds_toArray, List.set_cons_zero, List.set_cons_succ]
  refine H_put (i := 4) 73 (v := .pointer (some ⟨ab, 5, none⟩)) rfl rfl (by kernel_rfl) (by kernel_rfl) (by kernel_rfl) (fun _ _ _ h => h) (Or.inl ⟨by rfl, fun w' hw' => ?_⟩) hS ?_
  · go_simp
  simp only [Act.put, List.setIfInBounds_toArray, List.set_cons_zero, List.set_cons_succ]
  refine H_put (i := 5) 74 (v := .agg #[.slice ka kn kc, .int .i64 torn, .int .i64 at_]) rfl rfl (by kernel_rfl) (by kernel_rfl) (by kernel_rfl) (fun _ _ _ h => h) (Or.inl ⟨by rfl, fun w' hw' => ?_⟩) hS ?_
  · have hbx := (hw').at' HAx.out id; have c5 : w'.cell? ⟨ab, 5, none⟩ = some (.slice ka kn kc) := cellOf hbx 5; have c6 : w'.cell? ⟨ab, 6, none⟩ = some (.int .i64 torn) := cellOf hbx 6; have c7 : w'.cell? ⟨ab, 7, none⟩ = some (.int .i64 at_) := cellOf hbx 7; go_simp
  simp only [Act.put, List.setIfInBounds_toArray, List.set_cons_zero, List.set_cons_succ]
  refine H_call (i := 6) 75 19 #[Ptr d, .agg #[.slice ka kn kc, .int .i64 torn, .int .i64 at_]] (by kernel_rfl) rfl rfl (by rfl) (by go_simp) HL1.out ?_
  rintro e w2 ⟨rfl, hA2⟩
  have HA2 := hid ((Touch.refl _ wd).drew.trans hA2)
  clear hA2
  have hS2 : (fun w' : World => Adds wd w') _ := HA2.out
  refine ⟨_, _, rfl, hS2, fun w' h => h, ?_⟩
  clear hS; have hS := hS2; clear hS2
  simp only [Act.put, List.setIfInBounds_toArray, List.set_cons_zero, List.set_cons_succ]
  refine H_put (i := 7) 68 (v := .tuple #[.pointer none, .int .i64 2]) rfl rfl (by kernel_rfl) (by kernel_rfl) (by kernel_rfl) (fun _ _ _ h => h) (Or.inl ⟨by rfl, fun w' hw' => ?_⟩) hS ?_
  · go_simp
  simp only [Act.put, List.setIfInBounds_toArray, List.set_cons_zero, List.set_cons_succ]
  refine H_put (i := 8) 76 (v := .pointer none) rfl rfl (by kernel_rfl) (by kernel_rfl) (by kernel_rfl) (fun _ _ _ h => h) (Or.inl ⟨by rfl, fun w' hw' => ?_⟩) hS ?_
  · go_simp
  simp only [Act.put, List.setIfInBounds_toArray, List.set_cons_zero, List.set_cons_succ]
  refine H_put (i := 9) 77 (v := .int .i64 2) rfl rfl (by kernel_rfl) (by kernel_rfl) (by kernel_rfl) (fun _ _ _ h => h) (Or.inl ⟨by rfl, fun w' hw' => ?_⟩) hS ?_
  · go_simp
  simp only [Act.put, List.setIfInBounds_toArray, List.set_cons_zero, List.set_cons_succ]
  refine H_put (i := 10) 7 (v := .pointer none) rfl rfl (by kernel_rfl) (by kernel_rfl) (by kernel_rfl) (fun _ _ _ h => h) (Or.inl ⟨by rfl, fun w' hw' => ?_⟩) hS ?_
  · go_simp
  simp only [Act.put, List.setIfInBounds_toArray, List.set_cons_zero, List.set_cons_succ]
  refine H_put (i := 11) 8 (v := .int .i64 2) rfl rfl (by kernel_rfl) (by kernel_rfl) (by kernel_rfl) (fun _ _ _ h => h) (Or.inl ⟨by rfl, fun w' hw' => ?_⟩) hS ?_
  · go_simp
  simp only [Act.put, List.setIfInBounds_toArray, List.set_cons_zero, List.set_cons_succ]
  refine wpAnyH_done (by kernel_rfl) ?_ _
  clear hS
  go_upto_region 12 with fail
  refine H_begin (S := fun w' : World => Adds w2 w') (by kernel_rfl) ?_
  have hS : (fun w' : World => Adds w2 w') w2.drew := (Touch.refl _ w2).drew
  refine H_put (i := 0) 79 (v := Ptr pp) rfl rfl (by kernel_rfl) (by kernel_rfl) (by kernel_rfl) (fun _ _ _ h => h) (Or.inl ⟨by rfl, fun w' hw' => ?_⟩) hS ?_
  · go_simp
  simp only [Act.put, List.setIfInBounds_toArray, List.set_cons_zero, List.set_cons_succ]
  refine H_put (i := 1) 80 (v := Ptr pp) rfl rfl (by kernel_rfl) (by kernel_rfl) (by kernel_rfl) (fun _ _ _ h => h) (Or.inl ⟨by rfl, fun w' hw' => ?_⟩) hS ?_
  · go_simp
  simp only [Act.put, List.setIfInBounds_toArray, List.set_cons_zero, List.set_cons_succ]
  refine H_put (i := 2) 81 (v := .pointer (some ⟨pp, 1, none⟩)) rfl rfl (by kernel_rfl) (by kernel_rfl) (by kernel_rfl) (fun _ _ _ h => h) (Or.inl ⟨by rfl, fun w' hw' => ?_⟩) hS ?_
  · go_simp
  simp only [Act.put, List.setIfInBounds_toArray, List.set_cons_zero, List.set_cons_succ]
  refine H_put (i := 3) 82 (v := Ptr r) rfl rfl (by kernel_rfl) (by kernel_rfl) (by kernel_rfl) (fun _ _ _ h => h) (Or.inl ⟨by rfl, fun w' hw' => ?_⟩) hS ?_
  · have c : w'.cell? ⟨pp, 1, none⟩ = some (Ptr r) := cellOf ((HA2.out.trans hw').at' HPx.out id) 1; go_simp
  simp only [Act.put, List.setIfInBounds_toArray, List.set_cons_zero, List.set_cons_succ]
  refine H_put (i := 4) 83 (v := .pointer (some ⟨ab, 5, none⟩)) rfl rfl (by kernel_rfl) (by kernel_rfl) (by kernel_rfl) (fun _ _ _ h => h) (Or.inl ⟨by rfl, fun w' hw' => ?_⟩) hS ?_
  · go_simp
  simp only [Act.put, List.setIfInBounds_toArray, List.set_cons_zero, List.set_cons_succ]
  refine H_put (i := 5) 84 (v := .agg #[.slice ka kn kc, .int .i64 torn, .int .i64 at_]) rfl rfl (by kernel_rfl) (by kernel_rfl) (by kernel_rfl) (fun _ _ _ h => h) (Or.inl ⟨by rfl, fun w' hw' => ?_⟩) hS ?_
  · have hbx := (HA2.out.trans hw').at' HAx.out id; have c5 : w'.cell? ⟨ab, 5, none⟩ = some (.slice ka kn kc) := cellOf hbx 5; have c6 : w'.cell? ⟨ab, 6, none⟩ = some (.int .i64 torn) := cellOf hbx 6; have c7 : w'.cell? ⟨ab, 7, none⟩ = some (.int .i64 at_) := cellOf hbx 7; go_simp
  simp only [Act.put, List.setIfInBounds_toArray, List.set_cons_zero, List.set_cons_succ]
  refine H_call (i := 6) 85 27 #[Ptr r, .agg #[.slice ka kn kc, .int .i64 torn, .int .i64 at_]] (by kernel_rfl) rfl rfl (by rfl) (by go_simp) (HL2.out w2.drew (HA2.out.trans (Touch.refl _ w2).drew)) ?_
  rintro e w3 ⟨rfl, hA3⟩
  have HA3 := hid ((Touch.refl _ w2).drew.trans hA3)
  clear hA3
  have hS2 : (fun w' : World => Adds w2 w') _ := HA3.out
  refine ⟨_, _, rfl, hS2, fun w' h => h, ?_⟩
  clear hS; have hS := hS2; clear hS2
  simp only [Act.put, List.setIfInBounds_toArray, List.set_cons_zero, List.set_cons_succ]
  refine H_put (i := 7) 78 (v := .tuple #[.pointer none, .int .i64 2]) rfl rfl (by kernel_rfl) (by kernel_rfl) (by kernel_rfl) (fun _ _ _ h => h) (Or.inl ⟨by rfl, fun w' hw' => ?_⟩) hS ?_
  · go_simp
  simp only [Act.put, List.setIfInBounds_toArray, List.set_cons_zero, List.set_cons_succ]
  refine H_put (i := 8) 86 (v := .pointer none) rfl rfl (by kernel_rfl) (by kernel_rfl) (by kernel_rfl) (fun _ _ _ h => h) (Or.inl ⟨by rfl, fun w' hw' => ?_⟩) hS ?_
  · go_simp
  simp only [Act.put, List.setIfInBounds_toArray, List.set_cons_zero, List.set_cons_succ]
  refine H_put (i := 9) 87 (v := .int .i64 2) rfl rfl (by kernel_rfl) (by kernel_rfl) (by kernel_rfl) (fun _ _ _ h => h) (Or.inl ⟨by rfl, fun w' hw' => ?_⟩) hS ?_
  · go_simp
  simp only [Act.put, List.setIfInBounds_toArray, List.set_cons_zero, List.set_cons_succ]
  refine H_put (i := 10) 9 (v := .pointer none) rfl rfl (by kernel_rfl) (by kernel_rfl) (by kernel_rfl) (fun _ _ _ h => h) (Or.inl ⟨by rfl, fun w' hw' => ?_⟩) hS ?_
  · go_simp
  simp only [Act.put, List.setIfInBounds_toArray, List.set_cons_zero, List.set_cons_succ]
  refine H_put (i := 11) 10 (v := .int .i64 2) rfl rfl (by kernel_rfl) (by kernel_rfl) (by kernel_rfl) (fun _ _ _ h => h) (Or.inl ⟨by rfl, fun w' hw' => ?_⟩) hS ?_
  · go_simp
  simp only [Act.put, List.setIfInBounds_toArray, List.set_cons_zero, List.set_cons_succ]
  refine wpAnyH_done (by kernel_rfl) ?_ _
  clear hS
  go_wp2_with fail
  go_ret
  exact ⟨rfl, l, d, q, r, _, _, (HP.out.adds (HA2.out.trans HA3.out)).fewer (fun x hx => List.mem_cons_of_mem _ hx), HF.out.mono (by omega)⟩
end Go.Proofs.YtmmgfankbabfbaaDoor

/- Acts of a pair of masters: a loss of power. -/
namespace Go.Proofs.YtmmgfankbabfbaaDoor
open Go.RowKit
set_option maxRecDepth 100000 in
set_option maxHeartbeats 4000000 in
theorem does10_lose_ok {w0 w : World} {pp l d q r n0 : Nat} {L : U.MS} {D : dSt} (h : MwE w0 w [(pp, PB10 d r (Ptr l) (Ptr q))] l d q r L L D D) (hpp : w0.heap.size ≤ pp) (hf : Fit10 L D n0) (hn0 : n0 ≤ 700) (hT : Tab w0) (n p : Int) (fa : Option Addr) (fn fc : Nat) (ns : List Nat) (hns : ns.length = fn) (hfc : fn ≤ fc) (hfl : fn ≤ 9223372036854775807) (hF : ∀ k ∈ ns, k < 18446744073709551616) (hq : NQ w0 (fun k => k < w0.heap.size) ⟨fa, fc, ns⟩) (c : UInt8) (ka : Option Addr) (kn kc : Nat) (torn at_ : Int) (ks : List Bool) (hks : KeptAt w0 ka ks) (hkn : ks.length = kn) (hk64 : kn ≤ 9223372036854775807) (hat : 0 ≤ torn ∧ torn < (D.W.length : Int) → 0 ≤ at_ ∧ at_ ≤ 256) :
    Calls Tryd.prog 11 #[Ptr pp, .agg (act10 2 n p fa fn fc c ka kn kc torn at_)] w (PDo10 w0 pp (n0 + 11)) := by
  obtain ⟨ab, hab⟩ : ∃ ab, ab = w.heap.size := ⟨_, rfl⟩
  obtain ⟨wd, hwd⟩ : ∃ wd, wd = w.alloc (.cells (act10 2 n p fa fn fc c ka kn kc torn at_) 43 (0, 0)) := ⟨_, rfl⟩
  have HP := hid (show MwE w0 wd [(ab, (.cells (act10 2 n p fa fn fc c ka kn kc torn at_) 43 (0, 0))), (pp, PB10 d r (Ptr l) (Ptr q))] l d q r L L D D by rw [hwd, hab]; exact h.more ((Touch.refl _ w).alloc _) w.heap.size _ (heap_alloc_new w _) (Nat.le_refl _))
  have HF := hid hf
  have HPP := hid hpp
  have HTb := hid hT
  have HN0 := hid hn0
  have HPx := hid (HP.out.other (pp, PB10 d r (Ptr l) (Ptr q)) (List.mem_cons_of_mem _ List.mem_cons_self))
  have HAx := hid (HP.out.other (ab, (.cells (act10 2 n p fa fn fc c ka kn kc torn at_) 43 (0, 0))) List.mem_cons_self)
  obtain ⟨fs, hfs⟩ : ∃ fs, fs = ns.take 40 := ⟨_, rfl⟩
  obtain ⟨fm, hfm⟩ : ∃ fm, fm = fs.length := ⟨_, rfl⟩
  have HFm1 := hid (show ¬ 40 < fn → fm = fn by rw [hfm, hfs, List.length_take, hns]; omega)
  have HFm2 := hid (show 40 < fn → fm = 40 by rw [hfm, hfs, List.length_take, hns]; omega)
  have HFs := hid (And.intro (show NQ w0 (fun k => k < w0.heap.size) ⟨fa, fc, fs⟩ by rw [hfs]; exact nq_take hq) (And.intro (show ∀ k ∈ fs, k < 18446744073709551616 by rw [hfs]; exact fun k hk => hF k (List.mem_of_mem_take hk)) hfm.symm))
  have e3 : (w.alloc (.cells (act10 2 n p fa fn fc c ka kn kc torn at_) 43 (0, 0))).cell? ⟨w.heap.size, 3, none⟩ = some (.slice fa fn fc) := cellOf (heap_alloc_new w _) 3
  clear h hpp hf hT hq hF hns hfs hfm
  go_enter Tryd.func11, Tryd.ntmps11
  go_upto_if 15 with fail
  rw [← hab, ← hwd]
  clear hab hwd e3
  go_cut [5] (fun t5 wx => t5 = .slice fa fm fc ∧ wx = wd)
  case first =>
    by_cases hl : 40 < fn
    · have hl2 : (40 : Int) < (fn : Int) := by omega
      have hl3 : 40 ≤ fc := by omega
      go_wp2_with fail
      go_meet
      exact ⟨by rw [HFm2.out hl], rfl⟩
    · have hl2 : ¬ (40 : Int) < (fn : Int) := by omega
      go_wp2_with fail
      go_meet
      exact ⟨by rw [HFm1.out hl], rfl⟩
  case rest =>
  obtain ⟨rfl, hwc⟩ := hcut
  rw [hwc]
  clear hwc hfc hfl HFm1 HFm2
  have g0 : wd.cell? ⟨ab, 0, none⟩ = some (.int .i64 2) := cellOf HAx.out 0
  have hW : D.W.length ≤ 800 := by have := HF.out.dok.waits; omega
  have HL1 := hid (show Calls Tryd.prog 19 #[Ptr d, .agg #[.slice ka kn kc, .int .i64 torn, .int .i64 at_]] wd.drew (PLoU wd.drew (D.lost ks torn at_)) by
    obtain ⟨OL, OD, OQ, OR, hh⟩ := HP.out.adds (Touch.refl _ wd).drew
    exact do_lose hh.wl.disk (by omega) HF.out.dok.size ka kn kc ks hkn torn at_ (hks.adds hh.wl.adds) hk64 hat)
  have HL2 := hid (fun w2 (hA : Adds wd w2) => show Calls Tryd.prog 27 #[Ptr r, .agg #[.slice ka kn kc, .int .i64 torn, .int .i64 at_]] w2 (fun e w' => ∃ p, e = .returned (.tuple #[Ptr p, .int .i64 0]) ∧ Hid (∃ OR, IsRO w' OR p (D.lost ks torn at_) ∧ (∀ k, OR k → w2.heap.size ≤ k ∧ k < w'.heap.size) ∧ Adds w2 w')) by
    obtain ⟨OL, OD, OQ, OR, hh⟩ := HP.out.adds hA
    obtain ⟨hv, wv, hd, _⟩ := hh.ro
    rw [← hkn]
    exact (rlose_fresh r hv wv D ka kc ks torn at_ w2 hd (by omega) (hks.adds hh.wl.adds) (by omega) hat))
  have HOk := hid (show op10 (D.lost ks torn at_) (L.at_ : Int) by
    have h1 := HF.out.fits
    show ¬ ((L.at_ : Int) < 0 ∨ D.size - 2 < (L.at_ : Int))
    omega)
  have HFl := hid (HF.out.lost ks torn at_)
  obtain ⟨qa, qb, qc, qd, hqb⟩ := HP.out.qbox
  have HQB := hid hqb
  have HQP := hid (show q ≠ pp from type_ne hqb HPx.out (by decide))
  clear hqb hks hat hkn hk64
  go_upto_region 11 with fail
  refine H_begin (S := fun w' : World => Adds wd w') (by kernel_rfl) ?_
  have hS : (fun w' : World => Adds wd w') wd.drew := (Touch.refl _ wd).drew
  refine H_put (i := 0) 69 (v := Ptr pp) rfl rfl (by kernel_rfl) (by kernel_rfl) (by kernel_rfl) (fun _ _ _ h => h) (Or.inl ⟨by rfl, fun w' hw' => ?_⟩) hS ?_
  · go_simp
  simp only [Act.put, List.setIfInBounds_toArray, List.set_cons_zero, List.set_cons_succ]
  refine H_put (i := 1) 70 (v := Ptr pp) rfl rfl (by kernel_rfl) (by kernel_rfl) (by kernel_rfl) (fun _ _ _ h => h) (Or.inl ⟨by rfl, fun w' hw' => ?_⟩) hS ?_
  · go_simp
  simp only [Act.put, List.setIfInBounds_toArray, List.set_cons_zero, List.set_cons_succ]
  refine H_put (i := 2) 71 (v := .pointer (some ⟨pp, 0, none⟩)) rfl rfl (by kernel_rfl) (by kernel_rfl) (by kernel_rfl) (fun _ _ _ h => h) (Or.inl ⟨by rfl, fun w' hw' => ?_⟩) hS ?_
  · go_simp
  simp only [Act.put, List.setIfInBounds_toArray, List.set_cons_zero, List.set_cons_succ]
  refine H_put (i := 3) 72 (v := Ptr d) rfl rfl (by kernel_rfl) (by kernel_rfl) (by kernel_rfl) (fun _ _ _ h => h) (Or.inl ⟨by rfl, fun w' hw' => ?_⟩) hS ?_
  · have c : w'.cell? ⟨pp, 0, none⟩ = some (Ptr d) := cellOf ((hw').at' HPx.out id) 0; go_simp
  simp only [Act.put, List.setIfInBounds_toArray, List.set_cons_zero, List.set_cons_succ]
  refine H_put (i := 4) 73 (v := .pointer (some ⟨ab, 5, none⟩)) rfl rfl (by kernel_rfl) (by kernel_rfl) (by kernel_rfl) (fun _ _ _ h => h) (Or.inl ⟨by rfl, fun w' hw' => ?_⟩) hS ?_
  · go_simp
  simp only [Act.put, List.setIfInBounds_toArray, List.set_cons_zero, List.set_cons_succ]
  refine H_put (i := 5) 74 (v := .agg #[.slice ka kn kc, .int .i64 torn, .int .i64 at_]) rfl rfl (by kernel_rfl) (by kernel_rfl) (by kernel_rfl) (fun _ _ _ h => h) (Or.inl ⟨by rfl, fun w' hw' => ?_⟩) hS ?_
  · have hbx := (hw').at' HAx.out id; have c5 : w'.cell? ⟨ab, 5, none⟩ = some (.slice ka kn kc) := cellOf hbx 5; have c6 : w'.cell? ⟨ab, 6, none⟩ = some (.int .i64 torn) := cellOf hbx 6; have c7 : w'.cell? ⟨ab, 7, none⟩ = some (.int .i64 at_) := cellOf hbx 7; go_simp
  simp only [Act.put, List.setIfInBounds_toArray, List.set_cons_zero, List.set_cons_succ]
  refine H_call (i := 6) 75 19 #[Ptr d, .agg #[.slice ka kn kc, .int .i64 torn, .int .i64 at_]] (by kernel_rfl) rfl rfl (by rfl) (by go_simp) HL1.out ?_
  rintro e w2 ⟨d2, rfl, H2⟩
  have HA2 := hid (show Adds wd w2 by obtain ⟨_, _, _, hA⟩ := H2.out; exact (Touch.refl _ wd).drew.trans hA)
  have hS2 : (fun w' : World => Adds wd w') _ := HA2.out
  refine ⟨_, _, rfl, hS2, fun w' h => h, ?_⟩
  clear hS; have hS := hS2; clear hS2
  simp only [Act.put, List.setIfInBounds_toArray, List.set_cons_zero, List.set_cons_succ]
  refine H_put (i := 7) 68 (v := .tuple #[Ptr d2, .int .i64 0]) rfl rfl (by kernel_rfl) (by kernel_rfl) (by kernel_rfl) (fun _ _ _ h => h) (Or.inl ⟨by rfl, fun w' hw' => ?_⟩) hS ?_
  · go_simp
  simp only [Act.put, List.setIfInBounds_toArray, List.set_cons_zero, List.set_cons_succ]
  refine H_put (i := 8) 76 (v := Ptr d2) rfl rfl (by kernel_rfl) (by kernel_rfl) (by kernel_rfl) (fun _ _ _ h => h) (Or.inl ⟨by rfl, fun w' hw' => ?_⟩) hS ?_
  · go_simp
  simp only [Act.put, List.setIfInBounds_toArray, List.set_cons_zero, List.set_cons_succ]
  refine H_put (i := 9) 77 (v := .int .i64 0) rfl rfl (by kernel_rfl) (by kernel_rfl) (by kernel_rfl) (fun _ _ _ h => h) (Or.inl ⟨by rfl, fun w' hw' => ?_⟩) hS ?_
  · go_simp
  simp only [Act.put, List.setIfInBounds_toArray, List.set_cons_zero, List.set_cons_succ]
  refine H_put (i := 10) 7 (v := Ptr d2) rfl rfl (by kernel_rfl) (by kernel_rfl) (by kernel_rfl) (fun _ _ _ h => h) (Or.inl ⟨by rfl, fun w' hw' => ?_⟩) hS ?_
  · go_simp
  simp only [Act.put, List.setIfInBounds_toArray, List.set_cons_zero, List.set_cons_succ]
  refine H_put (i := 11) 8 (v := .int .i64 0) rfl rfl (by kernel_rfl) (by kernel_rfl) (by kernel_rfl) (fun _ _ _ h => h) (Or.inl ⟨by rfl, fun w' hw' => ?_⟩) hS ?_
  · go_simp
  simp only [Act.put, List.setIfInBounds_toArray, List.set_cons_zero, List.set_cons_succ]
  refine wpAnyH_done (by kernel_rfl) ?_ _
  clear hS
  go_upto_region 12 with fail
  refine H_begin (S := fun w' : World => Adds w2 w') (by kernel_rfl) ?_
  have hS : (fun w' : World => Adds w2 w') w2.drew := (Touch.refl _ w2).drew
  refine H_put (i := 0) 79 (v := Ptr pp) rfl rfl (by kernel_rfl) (by kernel_rfl) (by kernel_rfl) (fun _ _ _ h => h) (Or.inl ⟨by rfl, fun w' hw' => ?_⟩) hS ?_
  · go_simp
  simp only [Act.put, List.setIfInBounds_toArray, List.set_cons_zero, List.set_cons_succ]
  refine H_put (i := 1) 80 (v := Ptr pp) rfl rfl (by kernel_rfl) (by kernel_rfl) (by kernel_rfl) (fun _ _ _ h => h) (Or.inl ⟨by rfl, fun w' hw' => ?_⟩) hS ?_
  · go_simp
  simp only [Act.put, List.setIfInBounds_toArray, List.set_cons_zero, List.set_cons_succ]
  refine H_put (i := 2) 81 (v := .pointer (some ⟨pp, 1, none⟩)) rfl rfl (by kernel_rfl) (by kernel_rfl) (by kernel_rfl) (fun _ _ _ h => h) (Or.inl ⟨by rfl, fun w' hw' => ?_⟩) hS ?_
  · go_simp
  simp only [Act.put, List.setIfInBounds_toArray, List.set_cons_zero, List.set_cons_succ]
  refine H_put (i := 3) 82 (v := Ptr r) rfl rfl (by kernel_rfl) (by kernel_rfl) (by kernel_rfl) (fun _ _ _ h => h) (Or.inl ⟨by rfl, fun w' hw' => ?_⟩) hS ?_
  · have c : w'.cell? ⟨pp, 1, none⟩ = some (Ptr r) := cellOf ((HA2.out.trans hw').at' HPx.out id) 1; go_simp
  simp only [Act.put, List.setIfInBounds_toArray, List.set_cons_zero, List.set_cons_succ]
  refine H_put (i := 4) 83 (v := .pointer (some ⟨ab, 5, none⟩)) rfl rfl (by kernel_rfl) (by kernel_rfl) (by kernel_rfl) (fun _ _ _ h => h) (Or.inl ⟨by rfl, fun w' hw' => ?_⟩) hS ?_
  · go_simp
  simp only [Act.put, List.setIfInBounds_toArray, List.set_cons_zero, List.set_cons_succ]
  refine H_put (i := 5) 84 (v := .agg #[.slice ka kn kc, .int .i64 torn, .int .i64 at_]) rfl rfl (by kernel_rfl) (by kernel_rfl) (by kernel_rfl) (fun _ _ _ h => h) (Or.inl ⟨by rfl, fun w' hw' => ?_⟩) hS ?_
  · have hbx := (HA2.out.trans hw').at' HAx.out id; have c5 : w'.cell? ⟨ab, 5, none⟩ = some (.slice ka kn kc) := cellOf hbx 5; have c6 : w'.cell? ⟨ab, 6, none⟩ = some (.int .i64 torn) := cellOf hbx 6; have c7 : w'.cell? ⟨ab, 7, none⟩ = some (.int .i64 at_) := cellOf hbx 7; go_simp
  simp only [Act.put, List.setIfInBounds_toArray, List.set_cons_zero, List.set_cons_succ]
  refine H_call (i := 6) 85 27 #[Ptr r, .agg #[.slice ka kn kc, .int .i64 torn, .int .i64 at_]] (by kernel_rfl) rfl rfl (by rfl) (by go_simp) (HL2.out w2.drew (HA2.out.trans (Touch.refl _ w2).drew)) ?_
  rintro e w3 ⟨r2, rfl, H3⟩
  have HA3 := hid (show Adds w2 w3 by obtain ⟨_, _, _, hA⟩ := H3.out; exact (Touch.refl _ w2).drew.trans hA)
  have hS2 : (fun w' : World => Adds w2 w') _ := HA3.out
  refine ⟨_, _, rfl, hS2, fun w' h => h, ?_⟩
  clear hS; have hS := hS2; clear hS2
  simp only [Act.put, List.setIfInBounds_toArray, List.set_cons_zero, List.set_cons_succ]
  refine H_put (i := 7) 78 (v := .tuple #[Ptr r2, .int .i64 0]) rfl rfl (by kernel_rfl) (by kernel_rfl) (by kernel_rfl) (fun _ _ _ h => h) (Or.inl ⟨by rfl, fun w' hw' => ?_⟩) hS ?_
  · go_simp
  simp only [Act.put, List.setIfInBounds_toArray, List.set_cons_zero, List.set_cons_succ]
  refine H_put (i := 8) 86 (v := Ptr r2) rfl rfl (by kernel_rfl) (by kernel_rfl) (by kernel_rfl) (fun _ _ _ h => h) (Or.inl ⟨by rfl, fun w' hw' => ?_⟩) hS ?_
  · go_simp
  simp only [Act.put, List.setIfInBounds_toArray, List.set_cons_zero, List.set_cons_succ]
  refine H_put (i := 9) 87 (v := .int .i64 0) rfl rfl (by kernel_rfl) (by kernel_rfl) (by kernel_rfl) (fun _ _ _ h => h) (Or.inl ⟨by rfl, fun w' hw' => ?_⟩) hS ?_
  · go_simp
  simp only [Act.put, List.setIfInBounds_toArray, List.set_cons_zero, List.set_cons_succ]
  refine H_put (i := 10) 9 (v := Ptr r2) rfl rfl (by kernel_rfl) (by kernel_rfl) (by kernel_rfl) (fun _ _ _ h => h) (Or.inl ⟨by rfl, fun w' hw' => ?_⟩) hS ?_
  · go_simp
  simp only [Act.put, List.setIfInBounds_toArray, List.set_cons_zero, List.set_cons_succ]
  refine H_put (i := 11) 10 (v := .int .i64 0) rfl rfl (by kernel_rfl) (by kernel_rfl) (by kernel_rfl) (fun _ _ _ h => h) (Or.inl ⟨by rfl, fun w' hw' => ?_⟩) hS ?_
  · go_simp
  simp only [Act.put, List.setIfInBounds_toArray, List.set_cons_zero, List.set_cons_succ]
  refine wpAnyH_done (by kernel_rfl) ?_ _
  clear hS
  have HA23 := hid (HA2.out.trans HA3.out)
  have HB3 := hid (HA23.out.at' HPx.out id)
  have c03 : w3.cell? ⟨pp, 0, none⟩ = some (Ptr d) := cellOf HB3.out 0
  have f03 : w3.frozen? ⟨pp, 0, none⟩ = false := frozen_of_row w3 pp 0 _ 35 HB3.out
  have c13 : w3.cell? ⟨pp, 1, none⟩ = some (Ptr r) := cellOf HB3.out 1
  have f13 : w3.frozen? ⟨pp, 1, none⟩ = false := frozen_of_row w3 pp 1 _ 35 HB3.out
  go_upto_region 16 with fail
  obtain ⟨w4, hw4⟩ : ∃ w4, w4 = (w3.setCell ⟨pp, 0, none⟩ (Ptr d2)).setCell ⟨pp, 1, none⟩ (Ptr r2) := ⟨_, rfl⟩
  rw [← hw4]
  have hT4 : Touch (fun k => k = pp) w3 w4 := by rw [hw4]; exact Touch.setCell (T := fun k => k = pp) (Touch.setCell (T := fun k => k = pp) (Touch.refl _ w3) (p := ⟨pp, 0, none⟩) (fun _ => rfl) _) (p := ⟨pp, 1, none⟩) (fun _ => rfl) _
  have HB4 := hid (show w4.heap[pp]? = some (PB10 d2 r2 (Ptr l) (Ptr q)) by rw [hw4]; exact heap_setCell_same _ pp 1 _ 35 _ (heap_setCell_same w3 pp 0 _ 35 _ HB3.out))
  have HQ4 := hid (hT4.at' (HA23.out.at' HQB.out id) HQP.out)
  have HD4 := hid ((((HP.out.adds (Touch.refl _ wd).drew).lost H2.out (by obtain ⟨OR, b1, b2, b3⟩ := H3.out; exact ⟨OR, b1, b2, (Touch.refl _ w2).drew.trans b3⟩)).box (d2 := d2) (r2 := r2) (List.mem_cons_of_mem _ List.mem_cons_self) hT4 HPP.out HB4.out rfl rfl))
  have HO := hid (p10_open HD4.out HPP.out (fun x hx => (by cases hx)) HFl.out.dok (by have := HN0.out; omega) (by have := HFl.out.size; omega) (by show (-1 : Int) ≠ 0; decide) HTb.out (L.at_ : Int))
  have c34 : w4.cell? ⟨pp, 3, none⟩ = some (Ptr q) := cellOf HB4.out 3
  have c14 : w4.cell? ⟨q, 1, none⟩ = some (.int .i64 (L.at_ : Int)) := by have c := cellOf HQ4.out 1; simpa using c
  clear hw4 hT4 c03 c13 f03 f13
  go_wp2_with (first | (go_at_call 10; refine HO.out.mono ?_; rintro e w9 ⟨rfl, H9⟩))
  go_ret
  refine ⟨rfl, ?_⟩
  rcases H9.out with ⟨hno, _⟩ | ⟨hok, l2, q2, h2⟩
  · exact absurd HOk.out hno
  · exact ⟨l2, d2, q2, r2, _, _, h2, (Fit10.open hok HFl.out.size HFl.out.dok).mono (by omega)⟩
end Go.Proofs.YtmmgfankbabfbaaDoor
