/- Texts put together: WP7a, WP7b, WP7c, WP7d, WP7e, WP7f. -/
import Derived.Test.YtllkplanjfnnmaaGreatDoorQ40
import Derived.Test.YtllkplanjfnnmaaGreatDoorQ41
import Derived.BigQuiet
/- Acts of a pair: Commit, Begin. -/
namespace Go.Proofs.YtllkplanjfnnmaaGreatDoor
open Go.RowKit

set_option maxRecDepth 100000 in
set_option maxHeartbeats 4000000 in
theorem does_commit {w0 w : World} {pp l d q r n0 : Nat} {L : LS} {D : dSt} (h : PwE w0 w [(pp, PBox d r (Ptr l) (Ptr q))] l d q r L L D D) (hpp : w0.heap.size ≤ pp) (hf : Fit L D n0) (hn0 : n0 ≤ 700) (hT : Tab w0) (n p : Int) (c : UInt8) (ka : Option Addr) (kn kc : Nat) (torn at_ : Int) :
    Calls Tryz.prog 8 #[Ptr pp, .agg (actA 1 n p c ka kn kc torn at_)] w (PDo w0 pp (n0 + 11)) := by
  obtain ⟨ab, hab⟩ : ∃ ab, ab = w.heap.size := ⟨_, rfl⟩
  have HP1 := hid (show PwE w0 (w.alloc (.cells (actA 1 n p c ka kn kc torn at_) 42 (0, 0))) [(ab, (.cells (actA 1 n p c ka kn kc torn at_) 42 (0, 0))), (pp, PBox d r (Ptr l) (Ptr q))] l d q r L L D D by rw [hab]; exact h.more ((Touch.refl _ w).alloc _) w.heap.size _ (heap_alloc_new w _) (Nat.le_refl _))
  have HAb := hid (show w0.heap.size ≤ ab by rw [hab]; exact h.base.size)
  have HF := hid hf
  have HPP := hid hpp
  have HTb := hid hT
  have HN0 := hid hn0
  obtain ⟨ep, hep⟩ : ∃ ep, ep = L.ep := ⟨_, rfl⟩
  obtain ⟨m3, hm3⟩ : ∃ m3, m3 = moreM n := ⟨_, rfl⟩
  have hm3b : m3 ≤ 2 := by rw [hm3]; unfold moreM; omega
  have hmw : wrap64 ((IntKind.u64.wrap n).tmod 3) = (m3 : Int) := by rw [hm3]; exact more_wrap n
  have hepb : ep ≤ 1000000000 := by rw [hep]; exact hf.ok.ep
  have HEp := hid hep
  have HQx := hid HP1.out.qbox
  have HPx := hid (HP1.out.other (pp, PBox d r (Ptr l) (Ptr q)) (List.mem_cons_of_mem _ List.mem_cons_self))
  have HAx := hid (HP1.out.other (ab, (.cells (actA 1 n p c ka kn kc torn at_) 42 (0, 0))) List.mem_cons_self)
  have e3 : (w.alloc (.cells (actA 1 n p c ka kn kc torn at_) 42 (0, 0))).cell? ⟨pp, 3, none⟩ = some (Ptr q) := cellOf HPx.out 3
  have e4 : (w.alloc (.cells (actA 1 n p c ka kn kc torn at_) 42 (0, 0))).cell? ⟨q, 3, none⟩ = some (.int .i64 (ep : Int)) := by
    obtain ⟨vL, sa, sc, hq⟩ := HQx.out
    have c := cellOf hq 3
    rw [hep]
    simpa using c
  have e5 : (w.alloc (.cells (actA 1 n p c ka kn kc torn at_) 42 (0, 0))).cell? ⟨ab, 1, none⟩ = some (.int .i64 n) := cellOf HAx.out 1
  have HW := hid hab
  clear h hpp hf hT hep hm3
  go_enter Tryz.func8, Tryz.ntmps8
  go_upto_region 1 with fail
  rw [← hab] at *
  go_quiet (fail)
  obtain ⟨wd, hwd⟩ : ∃ wd, wd = (w.alloc (.cells (actA 1 n p c ka kn kc torn at_) 42 (0, 0))).drewN nq := ⟨_, rfl⟩
  rw [← hwd]
  have HP := hid (show PwE w0 wd [(ab, (.cells (actA 1 n p c ka kn kc torn at_) 42 (0, 0))), (pp, PBox d r (Ptr l) (Ptr q))] l d q r L L D D by rw [hwd]; exact HP1.out.adds (adds_drewN _ nq))
  clear hwd HP1 HPx HAx HQx e3 e4 e5 hab HW
  have HPx := hid (HP.out.other (pp, PBox d r (Ptr l) (Ptr q)) (List.mem_cons_of_mem _ List.mem_cons_self))
  have HAx := hid (HP.out.other (ab, (.cells (actA 1 n p c ka kn kc torn at_) 42 (0, 0))) List.mem_cons_self)
  have g0 : wd.cell? ⟨ab, 0, none⟩ = some (.int .i64 1) := cellOf HAx.out 0
  obtain ⟨z, hz⟩ : ∃ z, z = comE L D := ⟨_, rfl⟩
  have HC1 := hid (show Calls Tryz.prog 16 #[Ptr l] wd.drew (PPw w0 [(ab, (.cells (actA 1 n p c ka kn kc torn at_) 42 (0, 0))), (pp, PBox d r (Ptr l) (Ptr q))] l d q r (comL L D) L (comD L D) D (.int .i64 z)) by rw [hz]; exact pw_commit (HP.out.adds (Touch.refl _ wd).drew) HF.out.ok HF.out.dok (by have := HF.out.ct; omega) HF.out.fits HTb.out)
  have HC2 := hid (fun (w2 : World) (h2 : PwE w0 w2 [(ab, (.cells (actA 1 n p c ka kn kc torn at_) 42 (0, 0))), (pp, PBox d r (Ptr l) (Ptr q))] l d q r (comL L D) L (comD L D) D) => show Calls Tryz.prog 24 #[Ptr q] w2 (PPw w0 [(ab, (.cells (actA 1 n p c ka kn kc torn at_) 42 (0, 0))), (pp, PBox d r (Ptr l) (Ptr q))] l d q r (comL L D) (comL L D) (comD L D) (comD L D) (.int .i64 z)) by rw [hz]; exact pwq_commit h2 HF.out.ok (by have := HF.out.ct; omega) HF.out.dok (by have := HF.out.ct; omega) HF.out.fits)
  clear hz
  go_upto_region 14 with fail
  refine H_begin (S := fun w' : World => w'.heap[pp]? = some (PBox d r (Ptr l) (Ptr q)) ∧ w'.heap[ab]? = some (.cells (actA 1 n p c ka kn kc torn at_) 42 (0, 0))) (by kernel_rfl) ?_
  have hS : (fun w' : World => w'.heap[pp]? = some (PBox d r (Ptr l) (Ptr q)) ∧ w'.heap[ab]? = some (.cells (actA 1 n p c ka kn kc torn at_) 42 (0, 0))) wd.drew := ⟨HPx.out, HAx.out⟩
  refine H_put (i := 0) 66 (v := Ptr pp) rfl rfl (by kernel_rfl) (by kernel_rfl) (by kernel_rfl) (fun _ _ _ h => h) (Or.inl ⟨by rfl, fun w' hw' => ?_⟩) hS ?_
  · go_simp
  simp only [Act.put, List.setIfInBounds_toArray, List.set_cons_zero, List.set_cons_succ]
  refine H_put (i := 1) 67 (v := Ptr pp) rfl rfl (by kernel_rfl) (by kernel_rfl) (by kernel_rfl) (fun _ _ _ h => h) (Or.inl ⟨by rfl, fun w' hw' => ?_⟩) hS ?_
  · go_simp
  simp only [Act.put, List.setIfInBounds_toArray, List.set_cons_zero, List.set_cons_succ]
  refine H_put (i := 2) 68 (v := .pointer (some ⟨pp, 2, none⟩)) rfl rfl (by kernel_rfl) (by kernel_rfl) (by kernel_rfl) (fun _ _ _ h => h) (Or.inl ⟨by rfl, fun w' hw' => ?_⟩) hS ?_
  · go_simp
  simp only [Act.put, List.setIfInBounds_toArray, List.set_cons_zero, List.set_cons_succ]
  refine H_put (i := 3) 69 (v := Ptr l) rfl rfl (by kernel_rfl) (by kernel_rfl) (by kernel_rfl) (fun _ _ _ h => h) (Or.inl ⟨by rfl, fun w' hw' => ?_⟩) hS ?_
  · have c : w'.cell? ⟨pp, 2, none⟩ = some (Ptr l) := cellOf hw'.1 2; go_simp
  simp only [Act.put, List.setIfInBounds_toArray, List.set_cons_zero, List.set_cons_succ]
  refine H_put (i := 5) 71 (v := Ptr pp) rfl rfl (by kernel_rfl) (by kernel_rfl) (by kernel_rfl) (fun _ _ _ h => h) (Or.inl ⟨by rfl, fun w' hw' => ?_⟩) hS ?_
  · go_simp
  simp only [Act.put, List.setIfInBounds_toArray, List.set_cons_zero, List.set_cons_succ]
  refine H_put (i := 6) 72 (v := Ptr pp) rfl rfl (by kernel_rfl) (by kernel_rfl) (by kernel_rfl) (fun _ _ _ h => h) (Or.inl ⟨by rfl, fun w' hw' => ?_⟩) hS ?_
  · go_simp
  simp only [Act.put, List.setIfInBounds_toArray, List.set_cons_zero, List.set_cons_succ]
  refine H_put (i := 7) 73 (v := .pointer (some ⟨pp, 3, none⟩)) rfl rfl (by kernel_rfl) (by kernel_rfl) (by kernel_rfl) (fun _ _ _ h => h) (Or.inl ⟨by rfl, fun w' hw' => ?_⟩) hS ?_
  · go_simp
  simp only [Act.put, List.setIfInBounds_toArray, List.set_cons_zero, List.set_cons_succ]
  refine H_put (i := 8) 74 (v := Ptr q) rfl rfl (by kernel_rfl) (by kernel_rfl) (by kernel_rfl) (fun _ _ _ h => h) (Or.inl ⟨by rfl, fun w' hw' => ?_⟩) hS ?_
  · have c : w'.cell? ⟨pp, 3, none⟩ = some (Ptr q) := cellOf hw'.1 3; go_simp
  simp only [Act.put, List.setIfInBounds_toArray, List.set_cons_zero, List.set_cons_succ]
  refine H_call (i := 4) 70 16 #[Ptr l] (by kernel_rfl) rfl rfl (by rfl) (by go_simp) (HC1.out) ?_
  rintro e w2 ⟨rfl, H2⟩
  have hS2 : (fun w' : World => w'.heap[pp]? = some (PBox d r (Ptr l) (Ptr q)) ∧ w'.heap[ab]? = some (.cells (actA 1 n p c ka kn kc torn at_) 42 (0, 0))) _ := ⟨H2.out.other (pp, PBox d r (Ptr l) (Ptr q)) (List.mem_cons_of_mem _ List.mem_cons_self), H2.out.other (ab, (.cells (actA 1 n p c ka kn kc torn at_) 42 (0, 0))) List.mem_cons_self⟩
  refine ⟨_, _, rfl, hS2, fun w' h => h, ?_⟩
  clear hS; have hS := hS2; clear hS2
  simp only [Act.put, List.setIfInBounds_toArray, List.set_cons_zero, List.set_cons_succ]
  refine H_call (i := 9) 75 24 #[Ptr q] (by kernel_rfl) rfl rfl (by rfl) (by go_simp) (HC2.out w2 H2.out) ?_
  rintro e w3 ⟨rfl, H3⟩
  have hS2 : (fun w' : World => w'.heap[pp]? = some (PBox d r (Ptr l) (Ptr q)) ∧ w'.heap[ab]? = some (.cells (actA 1 n p c ka kn kc torn at_) 42 (0, 0))) _ := ⟨H3.out.other (pp, PBox d r (Ptr l) (Ptr q)) (List.mem_cons_of_mem _ List.mem_cons_self), H3.out.other (ab, (.cells (actA 1 n p c ka kn kc torn at_) 42 (0, 0))) List.mem_cons_self⟩
  refine ⟨_, _, rfl, hS2, fun w' h => h, ?_⟩
  clear hS; have hS := hS2; clear hS2
  simp only [Act.put, List.setIfInBounds_toArray, List.set_cons_zero, List.set_cons_succ]
  refine H_put (i := 10) 76 (v := .bool true) rfl rfl (by kernel_rfl) (by kernel_rfl) (by kernel_rfl) (fun _ _ _ h => h) (Or.inl ⟨by rfl, fun w' hw' => ?_⟩) hS ?_
  · go_simp
  simp only [Act.put, List.setIfInBounds_toArray, List.set_cons_zero, List.set_cons_succ]
  refine H_put (i := 11) 4 (v := .bool true) rfl rfl (by kernel_rfl) (by kernel_rfl) (by kernel_rfl) (fun _ _ _ h => h) (Or.inl ⟨by rfl, fun w' hw' => ?_⟩) hS ?_
  · go_simp
  simp only [Act.put, List.setIfInBounds_toArray, List.set_cons_zero, List.set_cons_succ]
  refine wpAnyH_done (by kernel_rfl) ?_ _
  clear hS
  go_wp2_with fail
  go_ret
  exact ⟨rfl, l, d, q, r, _, _, H3.out.fewer (fun x hx => List.mem_cons_of_mem _ hx), HF.out.com⟩
set_option maxRecDepth 100000 in
set_option maxHeartbeats 4000000 in
theorem does_begin {w0 w : World} {pp l d q r n0 : Nat} {L : LS} {D : dSt} (h : PwE w0 w [(pp, PBox d r (Ptr l) (Ptr q))] l d q r L L D D) (hpp : w0.heap.size ≤ pp) (hf : Fit L D n0) (hn0 : n0 ≤ 700) (hT : Tab w0) (n p : Int) (c : UInt8) (ka : Option Addr) (kn kc : Nat) (torn at_ : Int) :
    Calls Tryz.prog 8 #[Ptr pp, .agg (actA 2 n p c ka kn kc torn at_)] w (PDo w0 pp (n0 + 11)) := by
  obtain ⟨ab, hab⟩ : ∃ ab, ab = w.heap.size := ⟨_, rfl⟩
  have HP1 := hid (show PwE w0 (w.alloc (.cells (actA 2 n p c ka kn kc torn at_) 42 (0, 0))) [(ab, (.cells (actA 2 n p c ka kn kc torn at_) 42 (0, 0))), (pp, PBox d r (Ptr l) (Ptr q))] l d q r L L D D by rw [hab]; exact h.more ((Touch.refl _ w).alloc _) w.heap.size _ (heap_alloc_new w _) (Nat.le_refl _))
  have HAb := hid (show w0.heap.size ≤ ab by rw [hab]; exact h.base.size)
  have HF := hid hf
  have HPP := hid hpp
  have HTb := hid hT
  have HN0 := hid hn0
  obtain ⟨ep, hep⟩ : ∃ ep, ep = L.ep := ⟨_, rfl⟩
  obtain ⟨m3, hm3⟩ : ∃ m3, m3 = moreM n := ⟨_, rfl⟩
  have hm3b : m3 ≤ 2 := by rw [hm3]; unfold moreM; omega
  have hmw : wrap64 ((IntKind.u64.wrap n).tmod 3) = (m3 : Int) := by rw [hm3]; exact more_wrap n
  have hepb : ep ≤ 1000000000 := by rw [hep]; exact hf.ok.ep
  have HEp := hid hep
  have HQx := hid HP1.out.qbox
  have HPx := hid (HP1.out.other (pp, PBox d r (Ptr l) (Ptr q)) (List.mem_cons_of_mem _ List.mem_cons_self))
  have HAx := hid (HP1.out.other (ab, (.cells (actA 2 n p c ka kn kc torn at_) 42 (0, 0))) List.mem_cons_self)
  have e3 : (w.alloc (.cells (actA 2 n p c ka kn kc torn at_) 42 (0, 0))).cell? ⟨pp, 3, none⟩ = some (Ptr q) := cellOf HPx.out 3
  have e4 : (w.alloc (.cells (actA 2 n p c ka kn kc torn at_) 42 (0, 0))).cell? ⟨q, 3, none⟩ = some (.int .i64 (ep : Int)) := by
    obtain ⟨vL, sa, sc, hq⟩ := HQx.out
    have c := cellOf hq 3
    rw [hep]
    simpa using c
  have e5 : (w.alloc (.cells (actA 2 n p c ka kn kc torn at_) 42 (0, 0))).cell? ⟨ab, 1, none⟩ = some (.int .i64 n) := cellOf HAx.out 1
  have HW := hid hab
  clear h hpp hf hT hep hm3
  go_enter Tryz.func8, Tryz.ntmps8
  go_upto_region 1 with fail
  rw [← hab] at *
  go_quiet (fail)
  obtain ⟨wd, hwd⟩ : ∃ wd, wd = (w.alloc (.cells (actA 2 n p c ka kn kc torn at_) 42 (0, 0))).drewN nq := ⟨_, rfl⟩
  rw [← hwd]
  have HP := hid (show PwE w0 wd [(ab, (.cells (actA 2 n p c ka kn kc torn at_) 42 (0, 0))), (pp, PBox d r (Ptr l) (Ptr q))] l d q r L L D D by rw [hwd]; exact HP1.out.adds (adds_drewN _ nq))
  clear hwd HP1 HPx HAx HQx e3 e4 e5 hab HW
  have HPx := hid (HP.out.other (pp, PBox d r (Ptr l) (Ptr q)) (List.mem_cons_of_mem _ List.mem_cons_self))
  have HAx := hid (HP.out.other (ab, (.cells (actA 2 n p c ka kn kc torn at_) 42 (0, 0))) List.mem_cons_self)
  have g0 : wd.cell? ⟨ab, 0, none⟩ = some (.int .i64 2) := cellOf HAx.out 0
  obtain ⟨z, hz⟩ : ∃ z, z = begE L ((ep : Int) + (m3 : Int)) := ⟨_, rfl⟩
  have HC1 := hid (show Calls Tryz.prog 25 #[Ptr l, .int .i64 ((ep : Int) + (m3 : Int))] wd.drew (PPw w0 [(ab, (.cells (actA 2 n p c ka kn kc torn at_) 42 (0, 0))), (pp, PBox d r (Ptr l) (Ptr q))] l d q r (begL L ((ep : Int) + (m3 : Int))) L D D (.int .i64 z)) by rw [hz]; exact pw_begin (HP.out.adds (Touch.refl _ wd).drew) _)
  have HC2 := hid (fun (w2 : World) (h2 : PwE w0 w2 [(ab, (.cells (actA 2 n p c ka kn kc torn at_) 42 (0, 0))), (pp, PBox d r (Ptr l) (Ptr q))] l d q r (begL L ((ep : Int) + (m3 : Int))) L D D) => show Calls Tryz.prog 26 #[Ptr q, .int .i64 ((ep : Int) + (m3 : Int))] w2 (PPw w0 [(ab, (.cells (actA 2 n p c ka kn kc torn at_) 42 (0, 0))), (pp, PBox d r (Ptr l) (Ptr q))] l d q r (begL L ((ep : Int) + (m3 : Int))) (begL L ((ep : Int) + (m3 : Int))) D D (.int .i64 z)) by rw [hz]; exact pwq_begin h2 _)
  clear hz
  go_upto_region 16 with fail
  refine H_begin (S := fun w' : World => w'.heap[pp]? = some (PBox d r (Ptr l) (Ptr q)) ∧ w'.heap[ab]? = some (.cells (actA 2 n p c ka kn kc torn at_) 42 (0, 0))) (by kernel_rfl) ?_
  have hS : (fun w' : World => w'.heap[pp]? = some (PBox d r (Ptr l) (Ptr q)) ∧ w'.heap[ab]? = some (.cells (actA 2 n p c ka kn kc torn at_) 42 (0, 0))) wd.drew := ⟨HPx.out, HAx.out⟩
  refine H_put (i := 0) 79 (v := Ptr pp) rfl rfl (by kernel_rfl) (by kernel_rfl) (by kernel_rfl) (fun _ _ _ h => h) (Or.inl ⟨by rfl, fun w' hw' => ?_⟩) hS ?_
  · go_simp
  simp only [Act.put, List.setIfInBounds_toArray, List.set_cons_zero, List.set_cons_succ]
  refine H_put (i := 1) 80 (v := Ptr pp) rfl rfl (by kernel_rfl) (by kernel_rfl) (by kernel_rfl) (fun _ _ _ h => h) (Or.inl ⟨by rfl, fun w' hw' => ?_⟩) hS ?_
  · go_simp
  simp only [Act.put, List.setIfInBounds_toArray, List.set_cons_zero, List.set_cons_succ]
  refine H_put (i := 2) 81 (v := .pointer (some ⟨pp, 2, none⟩)) rfl rfl (by kernel_rfl) (by kernel_rfl) (by kernel_rfl) (fun _ _ _ h => h) (Or.inl ⟨by rfl, fun w' hw' => ?_⟩) hS ?_
  · go_simp
  simp only [Act.put, List.setIfInBounds_toArray, List.set_cons_zero, List.set_cons_succ]
  refine H_put (i := 3) 82 (v := Ptr l) rfl rfl (by kernel_rfl) (by kernel_rfl) (by kernel_rfl) (fun _ _ _ h => h) (Or.inl ⟨by rfl, fun w' hw' => ?_⟩) hS ?_
  · have c : w'.cell? ⟨pp, 2, none⟩ = some (Ptr l) := cellOf hw'.1 2; go_simp
  simp only [Act.put, List.setIfInBounds_toArray, List.set_cons_zero, List.set_cons_succ]
  refine H_put (i := 4) 83 (v := .int .i64 ((ep : Int) + (m3 : Int))) rfl rfl (by kernel_rfl) (by kernel_rfl) (by kernel_rfl) (fun _ _ _ h => h) (Or.inl ⟨by rfl, fun w' hw' => ?_⟩) hS ?_
  · go_simp
  simp only [Act.put, List.setIfInBounds_toArray, List.set_cons_zero, List.set_cons_succ]
  refine H_put (i := 6) 85 (v := Ptr pp) rfl rfl (by kernel_rfl) (by kernel_rfl) (by kernel_rfl) (fun _ _ _ h => h) (Or.inl ⟨by rfl, fun w' hw' => ?_⟩) hS ?_
  · go_simp
  simp only [Act.put, List.setIfInBounds_toArray, List.set_cons_zero, List.set_cons_succ]
  refine H_put (i := 7) 86 (v := Ptr pp) rfl rfl (by kernel_rfl) (by kernel_rfl) (by kernel_rfl) (fun _ _ _ h => h) (Or.inl ⟨by rfl, fun w' hw' => ?_⟩) hS ?_
  · go_simp
  simp only [Act.put, List.setIfInBounds_toArray, List.set_cons_zero, List.set_cons_succ]
  refine H_put (i := 8) 87 (v := .pointer (some ⟨pp, 3, none⟩)) rfl rfl (by kernel_rfl) (by kernel_rfl) (by kernel_rfl) (fun _ _ _ h => h) (Or.inl ⟨by rfl, fun w' hw' => ?_⟩) hS ?_
  · go_simp
  simp only [Act.put, List.setIfInBounds_toArray, List.set_cons_zero, List.set_cons_succ]
  refine H_put (i := 9) 88 (v := Ptr q) rfl rfl (by kernel_rfl) (by kernel_rfl) (by kernel_rfl) (fun _ _ _ h => h) (Or.inl ⟨by rfl, fun w' hw' => ?_⟩) hS ?_
  · have c : w'.cell? ⟨pp, 3, none⟩ = some (Ptr q) := cellOf hw'.1 3; go_simp
  simp only [Act.put, List.setIfInBounds_toArray, List.set_cons_zero, List.set_cons_succ]
  refine H_put (i := 10) 89 (v := .int .i64 ((ep : Int) + (m3 : Int))) rfl rfl (by kernel_rfl) (by kernel_rfl) (by kernel_rfl) (fun _ _ _ h => h) (Or.inl ⟨by rfl, fun w' hw' => ?_⟩) hS ?_
  · go_simp
  simp only [Act.put, List.setIfInBounds_toArray, List.set_cons_zero, List.set_cons_succ]
  refine H_call (i := 5) 84 25 #[Ptr l, .int .i64 ((ep : Int) + (m3 : Int))] (by kernel_rfl) rfl rfl (by rfl) (by go_simp) (HC1.out) ?_
  rintro e w2 ⟨rfl, H2⟩
  have hS2 : (fun w' : World => w'.heap[pp]? = some (PBox d r (Ptr l) (Ptr q)) ∧ w'.heap[ab]? = some (.cells (actA 2 n p c ka kn kc torn at_) 42 (0, 0))) _ := ⟨H2.out.other (pp, PBox d r (Ptr l) (Ptr q)) (List.mem_cons_of_mem _ List.mem_cons_self), H2.out.other (ab, (.cells (actA 2 n p c ka kn kc torn at_) 42 (0, 0))) List.mem_cons_self⟩
  refine ⟨_, _, rfl, hS2, fun w' h => h, ?_⟩
  clear hS; have hS := hS2; clear hS2
  simp only [Act.put, List.setIfInBounds_toArray, List.set_cons_zero, List.set_cons_succ]
  refine H_call (i := 11) 90 26 #[Ptr q, .int .i64 ((ep : Int) + (m3 : Int))] (by kernel_rfl) rfl rfl (by rfl) (by go_simp) (HC2.out w2 H2.out) ?_
  rintro e w3 ⟨rfl, H3⟩
  have hS2 : (fun w' : World => w'.heap[pp]? = some (PBox d r (Ptr l) (Ptr q)) ∧ w'.heap[ab]? = some (.cells (actA 2 n p c ka kn kc torn at_) 42 (0, 0))) _ := ⟨H3.out.other (pp, PBox d r (Ptr l) (Ptr q)) (List.mem_cons_of_mem _ List.mem_cons_self), H3.out.other (ab, (.cells (actA 2 n p c ka kn kc torn at_) 42 (0, 0))) List.mem_cons_self⟩
  refine ⟨_, _, rfl, hS2, fun w' h => h, ?_⟩
  clear hS; have hS := hS2; clear hS2
  simp only [Act.put, List.setIfInBounds_toArray, List.set_cons_zero, List.set_cons_succ]
  refine H_put (i := 12) 91 (v := .bool true) rfl rfl (by kernel_rfl) (by kernel_rfl) (by kernel_rfl) (fun _ _ _ h => h) (Or.inl ⟨by rfl, fun w' hw' => ?_⟩) hS ?_
  · go_simp
  simp only [Act.put, List.setIfInBounds_toArray, List.set_cons_zero, List.set_cons_succ]
  refine H_put (i := 13) 4 (v := .bool true) rfl rfl (by kernel_rfl) (by kernel_rfl) (by kernel_rfl) (fun _ _ _ h => h) (Or.inl ⟨by rfl, fun w' hw' => ?_⟩) hS ?_
  · go_simp
  simp only [Act.put, List.setIfInBounds_toArray, List.set_cons_zero, List.set_cons_succ]
  refine wpAnyH_done (by kernel_rfl) ?_ _
  clear hS
  go_wp2_with fail
  go_ret
  exact ⟨rfl, l, d, q, r, _, _, H3.out.fewer (fun x hx => List.mem_cons_of_mem _ hx), HF.out.beg _⟩
end Go.Proofs.YtllkplanjfnnmaaGreatDoor

/- Acts of a pair: Cut, Spoil. -/
namespace Go.Proofs.YtllkplanjfnnmaaGreatDoor
open Go.RowKit

set_option maxRecDepth 100000 in
set_option maxHeartbeats 4000000 in
theorem does_cut {w0 w : World} {pp l d q r n0 : Nat} {L : LS} {D : dSt} (h : PwE w0 w [(pp, PBox d r (Ptr l) (Ptr q))] l d q r L L D D) (hpp : w0.heap.size ≤ pp) (hf : Fit L D n0) (hn0 : n0 ≤ 700) (hT : Tab w0) (n p : Int) (c : UInt8) (ka : Option Addr) (kn kc : Nat) (torn at_ : Int) (hn64 : n ≤ 9223372036854775807) :
    Calls Tryz.prog 8 #[Ptr pp, .agg (actA 4 n p c ka kn kc torn at_)] w (PDo w0 pp (n0 + 11)) := by
  obtain ⟨ab, hab⟩ : ∃ ab, ab = w.heap.size := ⟨_, rfl⟩
  have HP1 := hid (show PwE w0 (w.alloc (.cells (actA 4 n p c ka kn kc torn at_) 42 (0, 0))) [(ab, (.cells (actA 4 n p c ka kn kc torn at_) 42 (0, 0))), (pp, PBox d r (Ptr l) (Ptr q))] l d q r L L D D by rw [hab]; exact h.more ((Touch.refl _ w).alloc _) w.heap.size _ (heap_alloc_new w _) (Nat.le_refl _))
  have HAb := hid (show w0.heap.size ≤ ab by rw [hab]; exact h.base.size)
  have HF := hid hf
  have HPP := hid hpp
  have HTb := hid hT
  have HN0 := hid hn0
  obtain ⟨ep, hep⟩ : ∃ ep, ep = L.ep := ⟨_, rfl⟩
  obtain ⟨m3, hm3⟩ : ∃ m3, m3 = moreM n := ⟨_, rfl⟩
  have hm3b : m3 ≤ 2 := by rw [hm3]; unfold moreM; omega
  have hmw : wrap64 ((IntKind.u64.wrap n).tmod 3) = (m3 : Int) := by rw [hm3]; exact more_wrap n
  have hepb : ep ≤ 1000000000 := by rw [hep]; exact hf.ok.ep
  have HEp := hid hep
  have HQx := hid HP1.out.qbox
  have HPx := hid (HP1.out.other (pp, PBox d r (Ptr l) (Ptr q)) (List.mem_cons_of_mem _ List.mem_cons_self))
  have HAx := hid (HP1.out.other (ab, (.cells (actA 4 n p c ka kn kc torn at_) 42 (0, 0))) List.mem_cons_self)
  have e3 : (w.alloc (.cells (actA 4 n p c ka kn kc torn at_) 42 (0, 0))).cell? ⟨pp, 3, none⟩ = some (Ptr q) := cellOf HPx.out 3
  have e4 : (w.alloc (.cells (actA 4 n p c ka kn kc torn at_) 42 (0, 0))).cell? ⟨q, 3, none⟩ = some (.int .i64 (ep : Int)) := by
    obtain ⟨vL, sa, sc, hq⟩ := HQx.out
    have c := cellOf hq 3
    rw [hep]
    simpa using c
  have e5 : (w.alloc (.cells (actA 4 n p c ka kn kc torn at_) 42 (0, 0))).cell? ⟨ab, 1, none⟩ = some (.int .i64 n) := cellOf HAx.out 1
  have HW := hid hab
  clear h hpp hf hT hep hm3
  go_enter Tryz.func8, Tryz.ntmps8
  go_upto_region 1 with fail
  rw [← hab] at *
  go_quiet (fail)
  obtain ⟨wd, hwd⟩ : ∃ wd, wd = (w.alloc (.cells (actA 4 n p c ka kn kc torn at_) 42 (0, 0))).drewN nq := ⟨_, rfl⟩
  rw [← hwd]
  have HP := hid (show PwE w0 wd [(ab, (.cells (actA 4 n p c ka kn kc torn at_) 42 (0, 0))), (pp, PBox d r (Ptr l) (Ptr q))] l d q r L L D D by rw [hwd]; exact HP1.out.adds (adds_drewN _ nq))
  clear hwd HP1 HPx HAx HQx e3 e4 e5 hab HW
  have HPx := hid (HP.out.other (pp, PBox d r (Ptr l) (Ptr q)) (List.mem_cons_of_mem _ List.mem_cons_self))
  have HAx := hid (HP.out.other (ab, (.cells (actA 4 n p c ka kn kc torn at_) 42 (0, 0))) List.mem_cons_self)
  have g0 : wd.cell? ⟨ab, 0, none⟩ = some (.int .i64 4) := cellOf HAx.out 0
  obtain ⟨z, hz⟩ : ∃ z, z = cutE n := ⟨_, rfl⟩
  have HC1 := hid (show Calls Tryz.prog 28 #[Ptr d, .int .i64 n] wd.drew (PPw w0 [(ab, (.cells (actA 4 n p c ka kn kc torn at_) 42 (0, 0))), (pp, PBox d r (Ptr l) (Ptr q))] l d q r L L (cutD D n) D (.int .i64 z)) by rw [hz]; exact pw_cut (HP.out.adds (Touch.refl _ wd).drew) HF.out.dok.size n)
  have HC2 := hid (fun (w2 : World) (h2 : PwE w0 w2 [(ab, (.cells (actA 4 n p c ka kn kc torn at_) 42 (0, 0))), (pp, PBox d r (Ptr l) (Ptr q))] l d q r L L (cutD D n) D) => show Calls Tryz.prog 29 #[Ptr r, .int .i64 n] w2 (PPw w0 [(ab, (.cells (actA 4 n p c ka kn kc torn at_) 42 (0, 0))), (pp, PBox d r (Ptr l) (Ptr q))] l d q r L L (cutD D n) (cutD D n) (.int .i64 z)) by rw [hz]; exact pwq_cut h2 n)
  have HN := hid hn64
  clear hz
  go_upto_region 22 with fail
  refine H_begin (S := fun w' : World => w'.heap[pp]? = some (PBox d r (Ptr l) (Ptr q)) ∧ w'.heap[ab]? = some (.cells (actA 4 n p c ka kn kc torn at_) 42 (0, 0))) (by kernel_rfl) ?_
  have hS : (fun w' : World => w'.heap[pp]? = some (PBox d r (Ptr l) (Ptr q)) ∧ w'.heap[ab]? = some (.cells (actA 4 n p c ka kn kc torn at_) 42 (0, 0))) wd.drew := ⟨HPx.out, HAx.out⟩
  refine H_put (i := 0) 117 (v := Ptr pp) rfl rfl (by kernel_rfl) (by kernel_rfl) (by kernel_rfl) (fun _ _ _ h => h) (Or.inl ⟨by rfl, fun w' hw' => ?_⟩) hS ?_
  · go_simp
  simp only [Act.put, List.setIfInBounds_toArray, List.set_cons_zero, List.set_cons_succ]
  refine H_put (i := 1) 118 (v := Ptr pp) rfl rfl (by kernel_rfl) (by kernel_rfl) (by kernel_rfl) (fun _ _ _ h => h) (Or.inl ⟨by rfl, fun w' hw' => ?_⟩) hS ?_
  · go_simp
  simp only [Act.put, List.setIfInBounds_toArray, List.set_cons_zero, List.set_cons_succ]
  refine H_put (i := 2) 119 (v := .pointer (some ⟨pp, 0, none⟩)) rfl rfl (by kernel_rfl) (by kernel_rfl) (by kernel_rfl) (fun _ _ _ h => h) (Or.inl ⟨by rfl, fun w' hw' => ?_⟩) hS ?_
  · go_simp
  simp only [Act.put, List.setIfInBounds_toArray, List.set_cons_zero, List.set_cons_succ]
  refine H_put (i := 3) 120 (v := Ptr d) rfl rfl (by kernel_rfl) (by kernel_rfl) (by kernel_rfl) (fun _ _ _ h => h) (Or.inl ⟨by rfl, fun w' hw' => ?_⟩) hS ?_
  · have c : w'.cell? ⟨pp, 0, none⟩ = some (Ptr d) := cellOf hw'.1 0; go_simp
  simp only [Act.put, List.setIfInBounds_toArray, List.set_cons_zero, List.set_cons_succ]
  refine H_put (i := 4) 121 (v := .pointer (some ⟨ab, 1, none⟩)) rfl rfl (by kernel_rfl) (by kernel_rfl) (by kernel_rfl) (fun _ _ _ h => h) (Or.inl ⟨by rfl, fun w' hw' => ?_⟩) hS ?_
  · go_simp
  simp only [Act.put, List.setIfInBounds_toArray, List.set_cons_zero, List.set_cons_succ]
  refine H_put (i := 5) 122 (v := .int .i64 n) rfl rfl (by kernel_rfl) (by kernel_rfl) (by kernel_rfl) (fun _ _ _ h => h) (Or.inl ⟨by rfl, fun w' hw' => ?_⟩) hS ?_
  · have c : w'.cell? ⟨ab, 1, none⟩ = some (.int .i64 n) := cellOf hw'.2 1; go_simp
  simp only [Act.put, List.setIfInBounds_toArray, List.set_cons_zero, List.set_cons_succ]
  refine H_put (i := 7) 124 (v := Ptr pp) rfl rfl (by kernel_rfl) (by kernel_rfl) (by kernel_rfl) (fun _ _ _ h => h) (Or.inl ⟨by rfl, fun w' hw' => ?_⟩) hS ?_
  · go_simp
  simp only [Act.put, List.setIfInBounds_toArray, List.set_cons_zero, List.set_cons_succ]
  refine H_put (i := 8) 125 (v := Ptr pp) rfl rfl (by kernel_rfl) (by kernel_rfl) (by kernel_rfl) (fun _ _ _ h => h) (Or.inl ⟨by rfl, fun w' hw' => ?_⟩) hS ?_
  · go_simp
  simp only [Act.put, List.setIfInBounds_toArray, List.set_cons_zero, List.set_cons_succ]
  refine H_put (i := 9) 126 (v := .pointer (some ⟨pp, 1, none⟩)) rfl rfl (by kernel_rfl) (by kernel_rfl) (by kernel_rfl) (fun _ _ _ h => h) (Or.inl ⟨by rfl, fun w' hw' => ?_⟩) hS ?_
  · go_simp
  simp only [Act.put, List.setIfInBounds_toArray, List.set_cons_zero, List.set_cons_succ]
  refine H_put (i := 10) 127 (v := Ptr r) rfl rfl (by kernel_rfl) (by kernel_rfl) (by kernel_rfl) (fun _ _ _ h => h) (Or.inl ⟨by rfl, fun w' hw' => ?_⟩) hS ?_
  · have c : w'.cell? ⟨pp, 1, none⟩ = some (Ptr r) := cellOf hw'.1 1; go_simp
  simp only [Act.put, List.setIfInBounds_toArray, List.set_cons_zero, List.set_cons_succ]
  refine H_put (i := 11) 128 (v := .pointer (some ⟨ab, 1, none⟩)) rfl rfl (by kernel_rfl) (by kernel_rfl) (by kernel_rfl) (fun _ _ _ h => h) (Or.inl ⟨by rfl, fun w' hw' => ?_⟩) hS ?_
  · go_simp
  simp only [Act.put, List.setIfInBounds_toArray, List.set_cons_zero, List.set_cons_succ]
  refine H_put (i := 12) 129 (v := .int .i64 n) rfl rfl (by kernel_rfl) (by kernel_rfl) (by kernel_rfl) (fun _ _ _ h => h) (Or.inl ⟨by rfl, fun w' hw' => ?_⟩) hS ?_
  · have c : w'.cell? ⟨ab, 1, none⟩ = some (.int .i64 n) := cellOf hw'.2 1; go_simp
  simp only [Act.put, List.setIfInBounds_toArray, List.set_cons_zero, List.set_cons_succ]
  refine H_call (i := 6) 123 28 #[Ptr d, .int .i64 n] (by kernel_rfl) rfl rfl (by rfl) (by go_simp) (HC1.out) ?_
  rintro e w2 ⟨rfl, H2⟩
  have hS2 : (fun w' : World => w'.heap[pp]? = some (PBox d r (Ptr l) (Ptr q)) ∧ w'.heap[ab]? = some (.cells (actA 4 n p c ka kn kc torn at_) 42 (0, 0))) _ := ⟨H2.out.other (pp, PBox d r (Ptr l) (Ptr q)) (List.mem_cons_of_mem _ List.mem_cons_self), H2.out.other (ab, (.cells (actA 4 n p c ka kn kc torn at_) 42 (0, 0))) List.mem_cons_self⟩
  refine ⟨_, _, rfl, hS2, fun w' h => h, ?_⟩
  clear hS; have hS := hS2; clear hS2
  simp only [Act.put, List.setIfInBounds_toArray, List.set_cons_zero, List.set_cons_succ]
  refine H_call (i := 13) 130 29 #[Ptr r, .int .i64 n] (by kernel_rfl) rfl rfl (by rfl) (by go_simp) (HC2.out w2 H2.out) ?_
  rintro e w3 ⟨rfl, H3⟩
  have hS2 : (fun w' : World => w'.heap[pp]? = some (PBox d r (Ptr l) (Ptr q)) ∧ w'.heap[ab]? = some (.cells (actA 4 n p c ka kn kc torn at_) 42 (0, 0))) _ := ⟨H3.out.other (pp, PBox d r (Ptr l) (Ptr q)) (List.mem_cons_of_mem _ List.mem_cons_self), H3.out.other (ab, (.cells (actA 4 n p c ka kn kc torn at_) 42 (0, 0))) List.mem_cons_self⟩
  refine ⟨_, _, rfl, hS2, fun w' h => h, ?_⟩
  clear hS; have hS := hS2; clear hS2
  simp only [Act.put, List.setIfInBounds_toArray, List.set_cons_zero, List.set_cons_succ]
  refine H_put (i := 14) 131 (v := .bool true) rfl rfl (by kernel_rfl) (by kernel_rfl) (by kernel_rfl) (fun _ _ _ h => h) (Or.inl ⟨by rfl, fun w' hw' => ?_⟩) hS ?_
  · go_simp
  simp only [Act.put, List.setIfInBounds_toArray, List.set_cons_zero, List.set_cons_succ]
  refine H_put (i := 15) 4 (v := .bool true) rfl rfl (by kernel_rfl) (by kernel_rfl) (by kernel_rfl) (fun _ _ _ h => h) (Or.inl ⟨by rfl, fun w' hw' => ?_⟩) hS ?_
  · go_simp
  simp only [Act.put, List.setIfInBounds_toArray, List.set_cons_zero, List.set_cons_succ]
  refine wpAnyH_done (by kernel_rfl) ?_ _
  clear hS
  go_wp2_with fail
  go_ret
  exact ⟨rfl, l, d, q, r, _, _, H3.out.fewer (fun x hx => List.mem_cons_of_mem _ hx), HF.out.cut n HN.out⟩
set_option maxRecDepth 100000 in
set_option maxHeartbeats 4000000 in
theorem does_spoil {w0 w : World} {pp l d q r n0 : Nat} {L : LS} {D : dSt} (h : PwE w0 w [(pp, PBox d r (Ptr l) (Ptr q))] l d q r L L D D) (hpp : w0.heap.size ≤ pp) (hf : Fit L D n0) (hn0 : n0 ≤ 700) (hT : Tab w0) (n p : Int) (c : UInt8) (ka : Option Addr) (kn kc : Nat) (torn at_ : Int) :
    Calls Tryz.prog 8 #[Ptr pp, .agg (actA 6 n p c ka kn kc torn at_)] w (PDo w0 pp (n0 + 11)) := by
  obtain ⟨ab, hab⟩ : ∃ ab, ab = w.heap.size := ⟨_, rfl⟩
  have HP1 := hid (show PwE w0 (w.alloc (.cells (actA 6 n p c ka kn kc torn at_) 42 (0, 0))) [(ab, (.cells (actA 6 n p c ka kn kc torn at_) 42 (0, 0))), (pp, PBox d r (Ptr l) (Ptr q))] l d q r L L D D by rw [hab]; exact h.more ((Touch.refl _ w).alloc _) w.heap.size _ (heap_alloc_new w _) (Nat.le_refl _))
  have HAb := hid (show w0.heap.size ≤ ab by rw [hab]; exact h.base.size)
  have HF := hid hf
  have HPP := hid hpp
  have HTb := hid hT
  have HN0 := hid hn0
  obtain ⟨ep, hep⟩ : ∃ ep, ep = L.ep := ⟨_, rfl⟩
  obtain ⟨m3, hm3⟩ : ∃ m3, m3 = moreM n := ⟨_, rfl⟩
  have hm3b : m3 ≤ 2 := by rw [hm3]; unfold moreM; omega
  have hmw : wrap64 ((IntKind.u64.wrap n).tmod 3) = (m3 : Int) := by rw [hm3]; exact more_wrap n
  have hepb : ep ≤ 1000000000 := by rw [hep]; exact hf.ok.ep
  have HEp := hid hep
  have HQx := hid HP1.out.qbox
  have HPx := hid (HP1.out.other (pp, PBox d r (Ptr l) (Ptr q)) (List.mem_cons_of_mem _ List.mem_cons_self))
  have HAx := hid (HP1.out.other (ab, (.cells (actA 6 n p c ka kn kc torn at_) 42 (0, 0))) List.mem_cons_self)
  have e3 : (w.alloc (.cells (actA 6 n p c ka kn kc torn at_) 42 (0, 0))).cell? ⟨pp, 3, none⟩ = some (Ptr q) := cellOf HPx.out 3
  have e4 : (w.alloc (.cells (actA 6 n p c ka kn kc torn at_) 42 (0, 0))).cell? ⟨q, 3, none⟩ = some (.int .i64 (ep : Int)) := by
    obtain ⟨vL, sa, sc, hq⟩ := HQx.out
    have c := cellOf hq 3
    rw [hep]
    simpa using c
  have e5 : (w.alloc (.cells (actA 6 n p c ka kn kc torn at_) 42 (0, 0))).cell? ⟨ab, 1, none⟩ = some (.int .i64 n) := cellOf HAx.out 1
  have HW := hid hab
  clear h hpp hf hT hep hm3
  go_enter Tryz.func8, Tryz.ntmps8
  go_upto_region 1 with fail
  rw [← hab] at *
  go_quiet (fail)
  obtain ⟨wd, hwd⟩ : ∃ wd, wd = (w.alloc (.cells (actA 6 n p c ka kn kc torn at_) 42 (0, 0))).drewN nq := ⟨_, rfl⟩
  rw [← hwd]
  have HP := hid (show PwE w0 wd [(ab, (.cells (actA 6 n p c ka kn kc torn at_) 42 (0, 0))), (pp, PBox d r (Ptr l) (Ptr q))] l d q r L L D D by rw [hwd]; exact HP1.out.adds (adds_drewN _ nq))
  clear hwd HP1 HPx HAx HQx e3 e4 e5 hab HW
  have HPx := hid (HP.out.other (pp, PBox d r (Ptr l) (Ptr q)) (List.mem_cons_of_mem _ List.mem_cons_self))
  have HAx := hid (HP.out.other (ab, (.cells (actA 6 n p c ka kn kc torn at_) 42 (0, 0))) List.mem_cons_self)
  have g0 : wd.cell? ⟨ab, 0, none⟩ = some (.int .i64 6) := cellOf HAx.out 0
  obtain ⟨z, hz⟩ : ∃ z, z = spoilE D n p := ⟨_, rfl⟩
  have HC1 := hid (show Calls Tryz.prog 32 #[Ptr d, .int .i64 n, .int .i64 p, .int .u8 (c.toNat : Int)] wd.drew (PPw w0 [(ab, (.cells (actA 6 n p c ka kn kc torn at_) 42 (0, 0))), (pp, PBox d r (Ptr l) (Ptr q))] l d q r L L (spoilD D n p c) D (.int .i64 z)) by rw [hz]; exact pw_spoil (HP.out.adds (Touch.refl _ wd).drew) HF.out.dok (by omega) n p c)
  have HC2 := hid (fun (w2 : World) (h2 : PwE w0 w2 [(ab, (.cells (actA 6 n p c ka kn kc torn at_) 42 (0, 0))), (pp, PBox d r (Ptr l) (Ptr q))] l d q r L L (spoilD D n p c) D) => show Calls Tryz.prog 33 #[Ptr r, .int .i64 n, .int .i64 p, .int .u8 (c.toNat : Int)] w2 (PPw w0 [(ab, (.cells (actA 6 n p c ka kn kc torn at_) 42 (0, 0))), (pp, PBox d r (Ptr l) (Ptr q))] l d q r L L (spoilD D n p c) (spoilD D n p c) (.int .i64 z)) by rw [hz]; exact pwq_spoil h2 HF.out.dok (by omega) n p c)
  clear hz
  go_upto_region 31 with fail
  refine H_begin (S := fun w' : World => w'.heap[pp]? = some (PBox d r (Ptr l) (Ptr q)) ∧ w'.heap[ab]? = some (.cells (actA 6 n p c ka kn kc torn at_) 42 (0, 0))) (by kernel_rfl) ?_
  have hS : (fun w' : World => w'.heap[pp]? = some (PBox d r (Ptr l) (Ptr q)) ∧ w'.heap[ab]? = some (.cells (actA 6 n p c ka kn kc torn at_) 42 (0, 0))) wd.drew := ⟨HPx.out, HAx.out⟩
  refine H_put (i := 0) 197 (v := Ptr pp) rfl rfl (by kernel_rfl) (by kernel_rfl) (by kernel_rfl) (fun _ _ _ h => h) (Or.inl ⟨by rfl, fun w' hw' => ?_⟩) hS ?_
  · go_simp
  simp only [Act.put, List.setIfInBounds_toArray, List.set_cons_zero, List.set_cons_succ]
  refine H_put (i := 1) 198 (v := Ptr pp) rfl rfl (by kernel_rfl) (by kernel_rfl) (by kernel_rfl) (fun _ _ _ h => h) (Or.inl ⟨by rfl, fun w' hw' => ?_⟩) hS ?_
  · go_simp
  simp only [Act.put, List.setIfInBounds_toArray, List.set_cons_zero, List.set_cons_succ]
  refine H_put (i := 2) 199 (v := .pointer (some ⟨pp, 0, none⟩)) rfl rfl (by kernel_rfl) (by kernel_rfl) (by kernel_rfl) (fun _ _ _ h => h) (Or.inl ⟨by rfl, fun w' hw' => ?_⟩) hS ?_
  · go_simp
  simp only [Act.put, List.setIfInBounds_toArray, List.set_cons_zero, List.set_cons_succ]
  refine H_put (i := 3) 200 (v := Ptr d) rfl rfl (by kernel_rfl) (by kernel_rfl) (by kernel_rfl) (fun _ _ _ h => h) (Or.inl ⟨by rfl, fun w' hw' => ?_⟩) hS ?_
  · have c : w'.cell? ⟨pp, 0, none⟩ = some (Ptr d) := cellOf hw'.1 0; go_simp
  simp only [Act.put, List.setIfInBounds_toArray, List.set_cons_zero, List.set_cons_succ]
  refine H_put (i := 4) 201 (v := .pointer (some ⟨ab, 1, none⟩)) rfl rfl (by kernel_rfl) (by kernel_rfl) (by kernel_rfl) (fun _ _ _ h => h) (Or.inl ⟨by rfl, fun w' hw' => ?_⟩) hS ?_
  · go_simp
  simp only [Act.put, List.setIfInBounds_toArray, List.set_cons_zero, List.set_cons_succ]
  refine H_put (i := 5) 202 (v := .int .i64 n) rfl rfl (by kernel_rfl) (by kernel_rfl) (by kernel_rfl) (fun _ _ _ h => h) (Or.inl ⟨by rfl, fun w' hw' => ?_⟩) hS ?_
  · have c : w'.cell? ⟨ab, 1, none⟩ = some (.int .i64 n) := cellOf hw'.2 1; go_simp
  simp only [Act.put, List.setIfInBounds_toArray, List.set_cons_zero, List.set_cons_succ]
  refine H_put (i := 6) 203 (v := .pointer (some ⟨ab, 2, none⟩)) rfl rfl (by kernel_rfl) (by kernel_rfl) (by kernel_rfl) (fun _ _ _ h => h) (Or.inl ⟨by rfl, fun w' hw' => ?_⟩) hS ?_
  · go_simp
  simp only [Act.put, List.setIfInBounds_toArray, List.set_cons_zero, List.set_cons_succ]
  refine H_put (i := 7) 204 (v := .int .i64 p) rfl rfl (by kernel_rfl) (by kernel_rfl) (by kernel_rfl) (fun _ _ _ h => h) (Or.inl ⟨by rfl, fun w' hw' => ?_⟩) hS ?_
  · have c : w'.cell? ⟨ab, 2, none⟩ = some (.int .i64 p) := cellOf hw'.2 2; go_simp
  simp only [Act.put, List.setIfInBounds_toArray, List.set_cons_zero, List.set_cons_succ]
  refine H_put (i := 8) 205 (v := .pointer (some ⟨ab, 3, none⟩)) rfl rfl (by kernel_rfl) (by kernel_rfl) (by kernel_rfl) (fun _ _ _ h => h) (Or.inl ⟨by rfl, fun w' hw' => ?_⟩) hS ?_
  · go_simp
  simp only [Act.put, List.setIfInBounds_toArray, List.set_cons_zero, List.set_cons_succ]
  refine H_put (i := 9) 206 (v := .int .u8 (c.toNat : Int)) rfl rfl (by kernel_rfl) (by kernel_rfl) (by kernel_rfl) (fun _ _ _ h => h) (Or.inl ⟨by rfl, fun w' hw' => ?_⟩) hS ?_
  · have c : w'.cell? ⟨ab, 3, none⟩ = some (.int .u8 (c.toNat : Int)) := cellOf hw'.2 3; go_simp
  simp only [Act.put, List.setIfInBounds_toArray, List.set_cons_zero, List.set_cons_succ]
  refine H_put (i := 11) 208 (v := Ptr pp) rfl rfl (by kernel_rfl) (by kernel_rfl) (by kernel_rfl) (fun _ _ _ h => h) (Or.inl ⟨by rfl, fun w' hw' => ?_⟩) hS ?_
  · go_simp
  simp only [Act.put, List.setIfInBounds_toArray, List.set_cons_zero, List.set_cons_succ]
  refine H_put (i := 12) 209 (v := Ptr pp) rfl rfl (by kernel_rfl) (by kernel_rfl) (by kernel_rfl) (fun _ _ _ h => h) (Or.inl ⟨by rfl, fun w' hw' => ?_⟩) hS ?_
  · go_simp
  simp only [Act.put, List.setIfInBounds_toArray, List.set_cons_zero, List.set_cons_succ]
  refine H_put (i := 13) 210 (v := .pointer (some ⟨pp, 1, none⟩)) rfl rfl (by kernel_rfl) (by kernel_rfl) (by kernel_rfl) (fun _ _ _ h => h) (Or.inl ⟨by rfl, fun w' hw' => ?_⟩) hS ?_
  · go_simp
  simp only [Act.put, List.setIfInBounds_toArray, List.set_cons_zero, List.set_cons_succ]
  refine H_put (i := 14) 211 (v := Ptr r) rfl rfl (by kernel_rfl) (by kernel_rfl) (by kernel_rfl) (fun _ _ _ h => h) (Or.inl ⟨by rfl, fun w' hw' => ?_⟩) hS ?_
  · have c : w'.cell? ⟨pp, 1, none⟩ = some (Ptr r) := cellOf hw'.1 1; go_simp
  simp only [Act.put, List.setIfInBounds_toArray, List.set_cons_zero, List.set_cons_succ]
  refine H_put (i := 15) 212 (v := .pointer (some ⟨ab, 1, none⟩)) rfl rfl (by kernel_rfl) (by kernel_rfl) (by kernel_rfl) (fun _ _ _ h => h) (Or.inl ⟨by rfl, fun w' hw' => ?_⟩) hS ?_
  · go_simp
  simp only [Act.put, List.setIfInBounds_toArray, List.set_cons_zero, List.set_cons_succ]
  refine H_put (i := 16) 213 (v := .int .i64 n) rfl rfl (by kernel_rfl) (by kernel_rfl) (by kernel_rfl) (fun _ _ _ h => h) (Or.inl ⟨by rfl, fun w' hw' => ?_⟩) hS ?_
  · have c : w'.cell? ⟨ab, 1, none⟩ = some (.int .i64 n) := cellOf hw'.2 1; go_simp
  simp only [Act.put, List.setIfInBounds_toArray, List.set_cons_zero, List.set_cons_succ]
  refine H_put (i := 17) 214 (v := .pointer (some ⟨ab, 2, none⟩)) rfl rfl (by kernel_rfl) (by kernel_rfl) (by kernel_rfl) (fun _ _ _ h => h) (Or.inl ⟨by rfl, fun w' hw' => ?_⟩) hS ?_
  · go_simp
  simp only [Act.put, List.setIfInBounds_toArray, List.set_cons_zero, List.set_cons_succ]
  refine H_put (i := 18) 215 (v := .int .i64 p) rfl rfl (by kernel_rfl) (by kernel_rfl) (by kernel_rfl) (fun _ _ _ h => h) (Or.inl ⟨by rfl, fun w' hw' => ?_⟩) hS ?_
  · have c : w'.cell? ⟨ab, 2, none⟩ = some (.int .i64 p) := cellOf hw'.2 2; go_simp
  simp only [Act.put, List.setIfInBounds_toArray, List.set_cons_zero, List.set_cons_succ]
  refine H_put (i := 19) 216 (v := .pointer (some ⟨ab, 3, none⟩)) rfl rfl (by kernel_rfl) (by kernel_rfl) (by kernel_rfl) (fun _ _ _ h => h) (Or.inl ⟨by rfl, fun w' hw' => ?_⟩) hS ?_
  · go_simp
  simp only [Act.put, List.setIfInBounds_toArray, List.set_cons_zero, List.set_cons_succ]
  refine H_put (i := 20) 217 (v := .int .u8 (c.toNat : Int)) rfl rfl (by kernel_rfl) (by kernel_rfl) (by kernel_rfl) (fun _ _ _ h => h) (Or.inl ⟨by rfl, fun w' hw' => ?_⟩) hS ?_
  · have c : w'.cell? ⟨ab, 3, none⟩ = some (.int .u8 (c.toNat : Int)) := cellOf hw'.2 3; go_simp
  simp only [Act.put, List.setIfInBounds_toArray, List.set_cons_zero, List.set_cons_succ]
  refine H_call (i := 10) 207 32 #[Ptr d, .int .i64 n, .int .i64 p, .int .u8 (c.toNat : Int)] (by kernel_rfl) rfl rfl (by rfl) (by go_simp) (HC1.out) ?_
  rintro e w2 ⟨rfl, H2⟩
  have hS2 : (fun w' : World => w'.heap[pp]? = some (PBox d r (Ptr l) (Ptr q)) ∧ w'.heap[ab]? = some (.cells (actA 6 n p c ka kn kc torn at_) 42 (0, 0))) _ := ⟨H2.out.other (pp, PBox d r (Ptr l) (Ptr q)) (List.mem_cons_of_mem _ List.mem_cons_self), H2.out.other (ab, (.cells (actA 6 n p c ka kn kc torn at_) 42 (0, 0))) List.mem_cons_self⟩
  refine ⟨_, _, rfl, hS2, fun w' h => h, ?_⟩
  clear hS; have hS := hS2; clear hS2
  simp only [Act.put, List.setIfInBounds_toArray, List.set_cons_zero, List.set_cons_succ]
  refine H_call (i := 21) 218 33 #[Ptr r, .int .i64 n, .int .i64 p, .int .u8 (c.toNat : Int)] (by kernel_rfl) rfl rfl (by rfl) (by go_simp) (HC2.out w2 H2.out) ?_
  rintro e w3 ⟨rfl, H3⟩
  have hS2 : (fun w' : World => w'.heap[pp]? = some (PBox d r (Ptr l) (Ptr q)) ∧ w'.heap[ab]? = some (.cells (actA 6 n p c ka kn kc torn at_) 42 (0, 0))) _ := ⟨H3.out.other (pp, PBox d r (Ptr l) (Ptr q)) (List.mem_cons_of_mem _ List.mem_cons_self), H3.out.other (ab, (.cells (actA 6 n p c ka kn kc torn at_) 42 (0, 0))) List.mem_cons_self⟩
  refine ⟨_, _, rfl, hS2, fun w' h => h, ?_⟩
  clear hS; have hS := hS2; clear hS2
  simp only [Act.put, List.setIfInBounds_toArray, List.set_cons_zero, List.set_cons_succ]
  refine H_put (i := 22) 219 (v := .bool true) rfl rfl (by kernel_rfl) (by kernel_rfl) (by kernel_rfl) (fun _ _ _ h => h) (Or.inl ⟨by rfl, fun w' hw' => ?_⟩) hS ?_
  · go_simp
  simp only [Act.put, List.setIfInBounds_toArray, List.set_cons_zero, List.set_cons_succ]
  refine H_put (i := 23) 4 (v := .bool true) rfl rfl (by kernel_rfl) (by kernel_rfl) (by kernel_rfl) (fun _ _ _ h => h) (Or.inl ⟨by rfl, fun w' hw' => ?_⟩) hS ?_
  · go_simp
  simp only [Act.put, List.setIfInBounds_toArray, List.set_cons_zero, List.set_cons_succ]
  refine wpAnyH_done (by kernel_rfl) ?_ _
  clear hS
  go_wp2_with fail
  go_ret
  exact ⟨rfl, l, d, q, r, _, _, H3.out.fewer (fun x hx => List.mem_cons_of_mem _ hx), HF.out.spoil n p c⟩
end Go.Proofs.YtllkplanjfnnmaaGreatDoor

/- Acts of a pair: Drop, none. -/
namespace Go.Proofs.YtllkplanjfnnmaaGreatDoor
open Go.RowKit

set_option maxRecDepth 100000 in
set_option maxHeartbeats 4000000 in
theorem does_drop {w0 w : World} {pp l d q r n0 : Nat} {L : LS} {D : dSt} (h : PwE w0 w [(pp, PBox d r (Ptr l) (Ptr q))] l d q r L L D D) (hpp : w0.heap.size ≤ pp) (hf : Fit L D n0) (hn0 : n0 ≤ 700) (hT : Tab w0) (n p : Int) (c : UInt8) (ka : Option Addr) (kn kc : Nat) (torn at_ : Int) :
    Calls Tryz.prog 8 #[Ptr pp, .agg (actA 3 n p c ka kn kc torn at_)] w (PDo w0 pp (n0 + 11)) := by
  obtain ⟨ab, hab⟩ : ∃ ab, ab = w.heap.size := ⟨_, rfl⟩
  have HP1 := hid (show PwE w0 (w.alloc (.cells (actA 3 n p c ka kn kc torn at_) 42 (0, 0))) [(ab, (.cells (actA 3 n p c ka kn kc torn at_) 42 (0, 0))), (pp, PBox d r (Ptr l) (Ptr q))] l d q r L L D D by rw [hab]; exact h.more ((Touch.refl _ w).alloc _) w.heap.size _ (heap_alloc_new w _) (Nat.le_refl _))
  have HAb := hid (show w0.heap.size ≤ ab by rw [hab]; exact h.base.size)
  have HF := hid hf
  have HPP := hid hpp
  have HTb := hid hT
  have HN0 := hid hn0
  obtain ⟨ep, hep⟩ : ∃ ep, ep = L.ep := ⟨_, rfl⟩
  obtain ⟨m3, hm3⟩ : ∃ m3, m3 = moreM n := ⟨_, rfl⟩
  have hm3b : m3 ≤ 2 := by rw [hm3]; unfold moreM; omega
  have hmw : wrap64 ((IntKind.u64.wrap n).tmod 3) = (m3 : Int) := by rw [hm3]; exact more_wrap n
  have hepb : ep ≤ 1000000000 := by rw [hep]; exact hf.ok.ep
  have HEp := hid hep
  have HQx := hid HP1.out.qbox
  have HPx := hid (HP1.out.other (pp, PBox d r (Ptr l) (Ptr q)) (List.mem_cons_of_mem _ List.mem_cons_self))
  have HAx := hid (HP1.out.other (ab, (.cells (actA 3 n p c ka kn kc torn at_) 42 (0, 0))) List.mem_cons_self)
  have e3 : (w.alloc (.cells (actA 3 n p c ka kn kc torn at_) 42 (0, 0))).cell? ⟨pp, 3, none⟩ = some (Ptr q) := cellOf HPx.out 3
  have e4 : (w.alloc (.cells (actA 3 n p c ka kn kc torn at_) 42 (0, 0))).cell? ⟨q, 3, none⟩ = some (.int .i64 (ep : Int)) := by
    obtain ⟨vL, sa, sc, hq⟩ := HQx.out
    have c := cellOf hq 3
    rw [hep]
    simpa using c
  have e5 : (w.alloc (.cells (actA 3 n p c ka kn kc torn at_) 42 (0, 0))).cell? ⟨ab, 1, none⟩ = some (.int .i64 n) := cellOf HAx.out 1
  have HW := hid hab
  clear h hpp hf hT hep hm3
  go_enter Tryz.func8, Tryz.ntmps8
  go_upto_region 1 with fail
  rw [← hab] at *
  go_quiet (fail)
  obtain ⟨wd, hwd⟩ : ∃ wd, wd = (w.alloc (.cells (actA 3 n p c ka kn kc torn at_) 42 (0, 0))).drewN nq := ⟨_, rfl⟩
  rw [← hwd]
  have HP := hid (show PwE w0 wd [(ab, (.cells (actA 3 n p c ka kn kc torn at_) 42 (0, 0))), (pp, PBox d r (Ptr l) (Ptr q))] l d q r L L D D by rw [hwd]; exact HP1.out.adds (adds_drewN _ nq))
  clear hwd HP1 HPx HAx HQx e3 e4 e5 hab HW
  have HPx := hid (HP.out.other (pp, PBox d r (Ptr l) (Ptr q)) (List.mem_cons_of_mem _ List.mem_cons_self))
  have HAx := hid (HP.out.other (ab, (.cells (actA 3 n p c ka kn kc torn at_) 42 (0, 0))) List.mem_cons_self)
  have g0 : wd.cell? ⟨ab, 0, none⟩ = some (.int .i64 3) := cellOf HAx.out 0
  obtain ⟨vL, sa, sc, hqb⟩ := HP.out.qbox
  obtain ⟨m, hm⟩ : ∃ m, m = L.R.length := ⟨_, rfl⟩
  rw [← hm] at hqb
  have q3 : wd.cell? ⟨pp, 3, none⟩ = some (Ptr q) := cellOf HPx.out 3
  have q6 : wd.cell? ⟨q, 6, none⟩ = some (.slice sa m sc) := by have c := cellOf hqb 6; simpa using c
  have f6 : wd.frozen? ⟨q, 6, none⟩ = false := frozen_of_row wd q 6 _ 67 hqb
  have hmb : m ≤ 1000000 := by
    rw [hm]
    by_cases hR : L.R = []
    · rw [hR]; simp
    · have h1 := secs_len (HF.out.ok.wt hR)
      have h2 := texts_le L.R
      have h3 := W.texts_len L.R
      have h4 := HF.out.ct
      omega
  have HPf := hid (pwq_forget HP.out)
  have p2 : (wd.setCell ⟨q, 6, none⟩ (.slice none 0 0)).cell? ⟨pp, 2, none⟩ = some (Ptr l) := cellOf (HPf.out.other (pp, PBox d r (Ptr l) (Ptr q)) (List.mem_cons_of_mem _ List.mem_cons_self)) 2
  have HDr := hid (show Calls Tryz.prog 27 #[Ptr l] (wd.setCell ⟨q, 6, none⟩ (.slice none 0 0)) (PPw w0 [(ab, (.cells (actA 3 n p c ka kn kc torn at_) 42 (0, 0))), (pp, PBox d r (Ptr l) (Ptr q))] l d q r { L with R := [] } { L with R := [] } D D (.int .i64 (m : Int))) by rw [hm]; exact pw_drop HPf.out)
  clear hm hqb
  go_wp2_with (first | (go_at_call 27; refine HDr.out.mono ?_; rintro e w2 ⟨rfl, H2⟩))
  go_ret
  exact ⟨rfl, l, d, q, r, _, _, H2.out.fewer (fun x hx => List.mem_cons_of_mem _ hx), HF.out.drop⟩
set_option maxRecDepth 100000 in
set_option maxHeartbeats 4000000 in
theorem does_none {w0 w : World} {pp l d q r n0 : Nat} {L : LS} {D : dSt} (h : PwE w0 w [(pp, PBox d r (Ptr l) (Ptr q))] l d q r L L D D) (hpp : w0.heap.size ≤ pp) (hf : Fit L D n0) (hn0 : n0 ≤ 700) (hT : Tab w0) (n p : Int) (c : UInt8) (ka : Option Addr) (kn kc : Nat) (torn at_ : Int) (k : Int) (hk : k < 0 ∨ 7 < k) :
    Calls Tryz.prog 8 #[Ptr pp, .agg (actA k n p c ka kn kc torn at_)] w (PDo w0 pp (n0 + 11)) := by
  obtain ⟨ab, hab⟩ : ∃ ab, ab = w.heap.size := ⟨_, rfl⟩
  have HP1 := hid (show PwE w0 (w.alloc (.cells (actA k n p c ka kn kc torn at_) 42 (0, 0))) [(ab, (.cells (actA k n p c ka kn kc torn at_) 42 (0, 0))), (pp, PBox d r (Ptr l) (Ptr q))] l d q r L L D D by rw [hab]; exact h.more ((Touch.refl _ w).alloc _) w.heap.size _ (heap_alloc_new w _) (Nat.le_refl _))
  have HAb := hid (show w0.heap.size ≤ ab by rw [hab]; exact h.base.size)
  have HF := hid hf
  have HPP := hid hpp
  have HTb := hid hT
  have HN0 := hid hn0
  obtain ⟨ep, hep⟩ : ∃ ep, ep = L.ep := ⟨_, rfl⟩
  obtain ⟨m3, hm3⟩ : ∃ m3, m3 = moreM n := ⟨_, rfl⟩
  have hm3b : m3 ≤ 2 := by rw [hm3]; unfold moreM; omega
  have hmw : wrap64 ((IntKind.u64.wrap n).tmod 3) = (m3 : Int) := by rw [hm3]; exact more_wrap n
  have hepb : ep ≤ 1000000000 := by rw [hep]; exact hf.ok.ep
  have HEp := hid hep
  have HQx := hid HP1.out.qbox
  have HPx := hid (HP1.out.other (pp, PBox d r (Ptr l) (Ptr q)) (List.mem_cons_of_mem _ List.mem_cons_self))
  have HAx := hid (HP1.out.other (ab, (.cells (actA k n p c ka kn kc torn at_) 42 (0, 0))) List.mem_cons_self)
  have e3 : (w.alloc (.cells (actA k n p c ka kn kc torn at_) 42 (0, 0))).cell? ⟨pp, 3, none⟩ = some (Ptr q) := cellOf HPx.out 3
  have e4 : (w.alloc (.cells (actA k n p c ka kn kc torn at_) 42 (0, 0))).cell? ⟨q, 3, none⟩ = some (.int .i64 (ep : Int)) := by
    obtain ⟨vL, sa, sc, hq⟩ := HQx.out
    have c := cellOf hq 3
    rw [hep]
    simpa using c
  have e5 : (w.alloc (.cells (actA k n p c ka kn kc torn at_) 42 (0, 0))).cell? ⟨ab, 1, none⟩ = some (.int .i64 n) := cellOf HAx.out 1
  have HW := hid hab
  clear h hpp hf hT hep hm3
  go_enter Tryz.func8, Tryz.ntmps8
  go_upto_region 1 with fail
  rw [← hab] at *
  go_quiet (fail)
  obtain ⟨wd, hwd⟩ : ∃ wd, wd = (w.alloc (.cells (actA k n p c ka kn kc torn at_) 42 (0, 0))).drewN nq := ⟨_, rfl⟩
  rw [← hwd]
  have HP := hid (show PwE w0 wd [(ab, (.cells (actA k n p c ka kn kc torn at_) 42 (0, 0))), (pp, PBox d r (Ptr l) (Ptr q))] l d q r L L D D by rw [hwd]; exact HP1.out.adds (adds_drewN _ nq))
  clear hwd HP1 HPx HAx HQx e3 e4 e5 hab HW
  have HPx := hid (HP.out.other (pp, PBox d r (Ptr l) (Ptr q)) (List.mem_cons_of_mem _ List.mem_cons_self))
  have HAx := hid (HP.out.other (ab, (.cells (actA k n p c ka kn kc torn at_) 42 (0, 0))) List.mem_cons_self)
  have g0 : wd.cell? ⟨ab, 0, none⟩ = some (.int .i64 k) := cellOf HAx.out 0
  have b0 : (k == 0) = false := by simp; omega
  have b1 : (k == 1) = false := by simp; omega
  have b2 : (k == 2) = false := by simp; omega
  have b3 : (k == 3) = false := by simp; omega
  have b4 : (k == 4) = false := by simp; omega
  have b5 : (k == 5) = false := by simp; omega
  have b6 : (k == 6) = false := by simp; omega
  have b7 : (k == 7) = false := by simp; omega
  clear hk
  go_wp2_with fail
  go_ret
  exact ⟨rfl, l, d, q, r, _, _, HP.out.fewer (fun x hx => List.mem_cons_of_mem _ hx), HF.out.mono (by omega)⟩
end Go.Proofs.YtllkplanjfnnmaaGreatDoor

/- Acts of a pair: opened again. -/
namespace Go.Proofs.YtllkplanjfnnmaaGreatDoor
open Go.RowKit

set_option maxRecDepth 100000 in
set_option maxHeartbeats 4000000 in
theorem does_open {w0 w : World} {pp l d q r n0 : Nat} {L : LS} {D : dSt} (h : PwE w0 w [(pp, PBox d r (Ptr l) (Ptr q))] l d q r L L D D) (hpp : w0.heap.size ≤ pp) (hf : Fit L D n0) (hn0 : n0 ≤ 700) (hT : Tab w0) (n p : Int) (c : UInt8) (ka : Option Addr) (kn kc : Nat) (torn at_ : Int) :
    Calls Tryz.prog 8 #[Ptr pp, .agg (actA 7 n p c ka kn kc torn at_)] w (PDo w0 pp (n0 + 11)) := by
  obtain ⟨ab, hab⟩ : ∃ ab, ab = w.heap.size := ⟨_, rfl⟩
  have HP1 := hid (show PwE w0 (w.alloc (.cells (actA 7 n p c ka kn kc torn at_) 42 (0, 0))) [(ab, (.cells (actA 7 n p c ka kn kc torn at_) 42 (0, 0))), (pp, PBox d r (Ptr l) (Ptr q))] l d q r L L D D by rw [hab]; exact h.more ((Touch.refl _ w).alloc _) w.heap.size _ (heap_alloc_new w _) (Nat.le_refl _))
  have HAb := hid (show w0.heap.size ≤ ab by rw [hab]; exact h.base.size)
  have HF := hid hf
  have HPP := hid hpp
  have HTb := hid hT
  have HN0 := hid hn0
  obtain ⟨ep, hep⟩ : ∃ ep, ep = L.ep := ⟨_, rfl⟩
  obtain ⟨m3, hm3⟩ : ∃ m3, m3 = moreM n := ⟨_, rfl⟩
  have hm3b : m3 ≤ 2 := by rw [hm3]; unfold moreM; omega
  have hmw : wrap64 ((IntKind.u64.wrap n).tmod 3) = (m3 : Int) := by rw [hm3]; exact more_wrap n
  have hepb : ep ≤ 1000000000 := by rw [hep]; exact hf.ok.ep
  have HEp := hid hep
  have HQx := hid HP1.out.qbox
  have HPx := hid (HP1.out.other (pp, PBox d r (Ptr l) (Ptr q)) (List.mem_cons_of_mem _ List.mem_cons_self))
  have HAx := hid (HP1.out.other (ab, (.cells (actA 7 n p c ka kn kc torn at_) 42 (0, 0))) List.mem_cons_self)
  have e3 : (w.alloc (.cells (actA 7 n p c ka kn kc torn at_) 42 (0, 0))).cell? ⟨pp, 3, none⟩ = some (Ptr q) := cellOf HPx.out 3
  have e4 : (w.alloc (.cells (actA 7 n p c ka kn kc torn at_) 42 (0, 0))).cell? ⟨q, 3, none⟩ = some (.int .i64 (ep : Int)) := by
    obtain ⟨vL, sa, sc, hq⟩ := HQx.out
    have c := cellOf hq 3
    rw [hep]
    simpa using c
  have e5 : (w.alloc (.cells (actA 7 n p c ka kn kc torn at_) 42 (0, 0))).cell? ⟨ab, 1, none⟩ = some (.int .i64 n) := cellOf HAx.out 1
  have HW := hid hab
  clear h hpp hf hT hep hm3
  go_enter Tryz.func8, Tryz.ntmps8
  go_upto_region 1 with fail
  rw [← hab] at *
  go_quiet (fail)
  obtain ⟨wd, hwd⟩ : ∃ wd, wd = (w.alloc (.cells (actA 7 n p c ka kn kc torn at_) 42 (0, 0))).drewN nq := ⟨_, rfl⟩
  rw [← hwd]
  have HP := hid (show PwE w0 wd [(ab, (.cells (actA 7 n p c ka kn kc torn at_) 42 (0, 0))), (pp, PBox d r (Ptr l) (Ptr q))] l d q r L L D D by rw [hwd]; exact HP1.out.adds (adds_drewN _ nq))
  clear hwd HP1 HPx HAx HQx e3 e4 e5 hab HW
  have HPx := hid (HP.out.other (pp, PBox d r (Ptr l) (Ptr q)) (List.mem_cons_of_mem _ List.mem_cons_self))
  have HAx := hid (HP.out.other (ab, (.cells (actA 7 n p c ka kn kc torn at_) 42 (0, 0))) List.mem_cons_self)
  have g0 : wd.cell? ⟨ab, 0, none⟩ = some (.int .i64 7) := cellOf HAx.out 0
  obtain ⟨vL, sa, sc, hqb⟩ := HP.out.qbox
  have q1 : wd.cell? ⟨q, 1, none⟩ = some (.int .i64 (L.fr : Int)) := by have c := cellOf hqb 1; simpa using c
  have q2 : wd.cell? ⟨q, 2, none⟩ = some (.int .i64 (L.ct : Int)) := by have c := cellOf hqb 2; simpa using c
  have q3 : wd.cell? ⟨pp, 3, none⟩ = some (Ptr q) := cellOf HPx.out 3
  have HO := hid (fun w2 (hA : Adds wd w2) (fr ct e : Int) => p_open ((HP.out.adds hA).fewer (Y := [(pp, PBox d r (Ptr l) (Ptr q))]) (fun x hx => List.mem_cons_of_mem _ hx)).disks HPP.out (fun x hx => (by cases hx)) HF.out.dok (by omega) HF.out.size HTb.out fr ct e)
  go_upto_region 33 with fail
  refine F_begin (S := fun w' : World => w'.heap[pp]? = some (PBox d r (Ptr l) (Ptr q)) ∧ w'.heap[q]? = some (.cells #[Ptr r, .int .i64 (L.fr : Int), .int .i64 (L.ct : Int), .int .i64 (L.ep : Int), .bool L.cl, vL, .slice sa L.R.length sc] 67 (0, 0))) (X := 16) (by kernel_rfl) ?_
  have hS : (fun w' : World => w'.heap[pp]? = some (PBox d r (Ptr l) (Ptr q)) ∧ w'.heap[q]? = some (.cells #[Ptr r, .int .i64 (L.fr : Int), .int .i64 (L.ct : Int), .int .i64 (L.ep : Int), .bool L.cl, vL, .slice sa L.R.length sc] 67 (0, 0))) wd.drew := ⟨HPx.out, hqb⟩
  refine F_put (i := 0) 222 (v := Ptr pp) rfl rfl (by kernel_rfl) (by kernel_rfl) (by kernel_rfl) (by kernel_rfl) (by kernel_rfl) (fun _ _ _ h => h) (Or.inl ⟨by rfl, fun w' hw' => ?_⟩) hS ?_
  · go_simp
  simp only [Act.put, List.setIfInBounds_toArray, List.set_cons_zero, List.set_cons_succ]
  refine F_put (i := 1) 223 (v := Ptr pp) rfl rfl (by kernel_rfl) (by kernel_rfl) (by kernel_rfl) (by kernel_rfl) (by kernel_rfl) (fun _ _ _ h => h) (Or.inl ⟨by rfl, fun w' hw' => ?_⟩) hS ?_
  · go_simp
  simp only [Act.put, List.setIfInBounds_toArray, List.set_cons_zero, List.set_cons_succ]
  refine F_put (i := 2) 224 (v := Ptr pp) rfl rfl (by kernel_rfl) (by kernel_rfl) (by kernel_rfl) (by kernel_rfl) (by kernel_rfl) (fun _ _ _ h => h) (Or.inl ⟨by rfl, fun w' hw' => ?_⟩) hS ?_
  · go_simp
  simp only [Act.put, List.setIfInBounds_toArray, List.set_cons_zero, List.set_cons_succ]
  refine F_put (i := 3) 225 (v := .pointer (some ⟨pp, 3, none⟩)) rfl rfl (by kernel_rfl) (by kernel_rfl) (by kernel_rfl) (by kernel_rfl) (by kernel_rfl) (fun _ _ _ h => h) (Or.inl ⟨by rfl, fun w' hw' => ?_⟩) hS ?_
  · go_simp
  simp only [Act.put, List.setIfInBounds_toArray, List.set_cons_zero, List.set_cons_succ]
  refine F_put (i := 4) 226 (v := Ptr q) rfl rfl (by kernel_rfl) (by kernel_rfl) (by kernel_rfl) (by kernel_rfl) (by kernel_rfl) (fun _ _ _ h => h) (Or.inl ⟨by rfl, fun w' hw' => ?_⟩) hS ?_
  · have c : w'.cell? ⟨pp, 3, none⟩ = some (Ptr q) := cellOf hw'.1 3; go_simp
  simp only [Act.put, List.setIfInBounds_toArray, List.set_cons_zero, List.set_cons_succ]
  refine F_put (i := 5) 227 (v := Ptr q) rfl rfl (by kernel_rfl) (by kernel_rfl) (by kernel_rfl) (by kernel_rfl) (by kernel_rfl) (fun _ _ _ h => h) (Or.inl ⟨by rfl, fun w' hw' => ?_⟩) hS ?_
  · go_simp
  simp only [Act.put, List.setIfInBounds_toArray, List.set_cons_zero, List.set_cons_succ]
  refine F_put (i := 6) 228 (v := .pointer (some ⟨q, 1, none⟩)) rfl rfl (by kernel_rfl) (by kernel_rfl) (by kernel_rfl) (by kernel_rfl) (by kernel_rfl) (fun _ _ _ h => h) (Or.inl ⟨by rfl, fun w' hw' => ?_⟩) hS ?_
  · go_simp
  simp only [Act.put, List.setIfInBounds_toArray, List.set_cons_zero, List.set_cons_succ]
  refine F_put (i := 7) 229 (v := .int .i64 (L.fr : Int)) rfl rfl (by kernel_rfl) (by kernel_rfl) (by kernel_rfl) (by kernel_rfl) (by kernel_rfl) (fun _ _ _ h => h) (Or.inl ⟨by rfl, fun w' hw' => ?_⟩) hS ?_
  · have c : w'.cell? ⟨q, 1, none⟩ = some (.int .i64 (L.fr : Int)) := cellOf hw'.2 1; go_simp
  simp only [Act.put, List.setIfInBounds_toArray, List.set_cons_zero, List.set_cons_succ]
  refine F_put (i := 8) 230 (v := Ptr pp) rfl rfl (by kernel_rfl) (by kernel_rfl) (by kernel_rfl) (by kernel_rfl) (by kernel_rfl) (fun _ _ _ h => h) (Or.inl ⟨by rfl, fun w' hw' => ?_⟩) hS ?_
  · go_simp
  simp only [Act.put, List.setIfInBounds_toArray, List.set_cons_zero, List.set_cons_succ]
  refine F_put (i := 9) 231 (v := Ptr pp) rfl rfl (by kernel_rfl) (by kernel_rfl) (by kernel_rfl) (by kernel_rfl) (by kernel_rfl) (fun _ _ _ h => h) (Or.inl ⟨by rfl, fun w' hw' => ?_⟩) hS ?_
  · go_simp
  simp only [Act.put, List.setIfInBounds_toArray, List.set_cons_zero, List.set_cons_succ]
  refine F_put (i := 10) 232 (v := .pointer (some ⟨pp, 3, none⟩)) rfl rfl (by kernel_rfl) (by kernel_rfl) (by kernel_rfl) (by kernel_rfl) (by kernel_rfl) (fun _ _ _ h => h) (Or.inl ⟨by rfl, fun w' hw' => ?_⟩) hS ?_
  · go_simp
  simp only [Act.put, List.setIfInBounds_toArray, List.set_cons_zero, List.set_cons_succ]
  refine F_put (i := 11) 233 (v := Ptr q) rfl rfl (by kernel_rfl) (by kernel_rfl) (by kernel_rfl) (by kernel_rfl) (by kernel_rfl) (fun _ _ _ h => h) (Or.inl ⟨by rfl, fun w' hw' => ?_⟩) hS ?_
  · have c : w'.cell? ⟨pp, 3, none⟩ = some (Ptr q) := cellOf hw'.1 3; go_simp
  simp only [Act.put, List.setIfInBounds_toArray, List.set_cons_zero, List.set_cons_succ]
  refine F_put (i := 12) 234 (v := Ptr q) rfl rfl (by kernel_rfl) (by kernel_rfl) (by kernel_rfl) (by kernel_rfl) (by kernel_rfl) (fun _ _ _ h => h) (Or.inl ⟨by rfl, fun w' hw' => ?_⟩) hS ?_
  · go_simp
  simp only [Act.put, List.setIfInBounds_toArray, List.set_cons_zero, List.set_cons_succ]
  refine F_put (i := 13) 235 (v := .pointer (some ⟨q, 2, none⟩)) rfl rfl (by kernel_rfl) (by kernel_rfl) (by kernel_rfl) (by kernel_rfl) (by kernel_rfl) (fun _ _ _ h => h) (Or.inl ⟨by rfl, fun w' hw' => ?_⟩) hS ?_
  · go_simp
  simp only [Act.put, List.setIfInBounds_toArray, List.set_cons_zero, List.set_cons_succ]
  refine F_put (i := 14) 236 (v := .int .i64 (L.ct : Int)) rfl rfl (by kernel_rfl) (by kernel_rfl) (by kernel_rfl) (by kernel_rfl) (by kernel_rfl) (fun _ _ _ h => h) (Or.inl ⟨by rfl, fun w' hw' => ?_⟩) hS ?_
  · have c : w'.cell? ⟨q, 2, none⟩ = some (.int .i64 (L.ct : Int)) := cellOf hw'.2 2; go_simp
  simp only [Act.put, List.setIfInBounds_toArray, List.set_cons_zero, List.set_cons_succ]
  refine F_put (i := 15) 237 (v := (.int .i64 ((ep : Int) + (m3 : Int)))) rfl rfl (by kernel_rfl) (by kernel_rfl) (by kernel_rfl) (by kernel_rfl) (by kernel_rfl) (fun _ _ _ h => h) (Or.inl ⟨by rfl, fun w' hw' => ?_⟩) hS ?_
  · go_simp
  simp only [Act.put, List.setIfInBounds_toArray, List.set_cons_zero, List.set_cons_succ]
  refine F_call (i := 16) 238 7 #[Ptr pp, .int .i64 (L.fr : Int), .int .i64 (L.ct : Int), (.int .i64 ((ep : Int) + (m3 : Int)))] (by kernel_rfl) rfl rfl (by rfl) (by go_simp) (HO.out _ (Touch.refl _ _).drew _ _ _) ?_
  rintro e w9 ⟨rfl, H9⟩
  clear hmw
  refine ⟨_, rfl, fun h => absurd h (by decide), ?_⟩
  simp only [Act.put, List.setIfInBounds_toArray, List.set_cons_zero, List.set_cons_succ]
  refine F_do (i := 17) (some 4) (by kernel_rfl) rfl rfl rfl (fun K hK => ?_)
  go_simp
  refine hK (.bool true) _ (fun h => absurd h (by decide)) ?_
  clear hK K hS
  simp only [Act.put, List.setIfInBounds_toArray, List.set_cons_zero, List.set_cons_succ]
  refine F_done (by kernel_rfl) ?_ _
  go_wp2_with fail
  go_ret
  refine ⟨rfl, ?_⟩
  rcases H9.out with ⟨_, hA⟩ | ⟨hok, l2, q2, h2⟩
  · exact ⟨l, d, q, r, L, D, (HP.out.adds ((Touch.refl _ wd).drew.trans hA)).fewer (fun x hx => List.mem_cons_of_mem _ hx), HF.out.mono (by omega)⟩
  · exact ⟨l2, d, q2, r, _, D, h2, (Fit.open hok HF.out.size HF.out.dok).mono (by omega)⟩
end Go.Proofs.YtllkplanjfnnmaaGreatDoor

/- Acts of a pair: Append. -/
namespace Go.Proofs.YtllkplanjfnnmaaGreatDoor
open Go.RowKit

set_option maxRecDepth 100000 in
theorem at_block {w : World} {bb : Nat} {bs : List UInt8} (h : w.heap[bb]? = some (.cells (S bs).toArray 5 (0, 0))) : At w (some ⟨bb, 0, none⟩) bs := fun j c hj => ⟨bb, 0, rfl, by
  rw [cellOf h, Nat.zero_add]
  have q : (S bs)[j]? = some (B8 c) := by rw [S_get, hj]; rfl
  rw [List.getElem?_toArray]
  exact q⟩
/-- A law's bytes turn, one by one. -/
def Tb (w wr : World) (bb bl : Nat) : Prop := Touch (fun k => k = bb) w wr ∧ ∃ cur, wr.heap[bb]? = some (.cells cur 5 (0, 0)) ∧ ∀ j, j < bl → ∃ z, cur[j]? = some (.int .u8 z)
set_option maxRecDepth 100000 in
theorem Tb.start {w : World} {bb bl : Nat} {bs : List UInt8} (h : w.heap[bb]? = some (.cells (S bs).toArray 5 (0, 0))) (hl : bs.length = bl) : Tb w w bb bl :=
  ⟨Touch.refl _ _, _, h, fun j hj => by
    refine ⟨(bs[j]'(by omega)).toNat, ?_⟩
    have q : (S bs)[j]? = some (B8 (bs[j]'(by omega))) := by rw [S_get, List.getElem?_eq_getElem (by omega)]; rfl
    rw [List.getElem?_toArray]
    exact q⟩
set_option maxRecDepth 100000 in
theorem Tb.next {w wr : World} {bb bl : Nat} (h : Tb w wr bb bl) (j : Nat) (z : Int) : Tb w (wr.setCell ⟨bb, j, none⟩ (.int .u8 z)) bb bl := by
  obtain ⟨hT, cur, hb, hc⟩ := h
  refine ⟨Touch.setCell (T := fun k => k = bb) hT (p := ⟨bb, j, none⟩) (fun _ => rfl) _, _, heap_setCell_same wr bb j cur 5 _ hb, fun i hi => ?_⟩
  obtain ⟨y, hy⟩ := hc i hi
  by_cases e : j = i
  · subst e
    have hlt : j < cur.size := (Array.getElem?_eq_some_iff.1 hy).1
    exact ⟨z, by simp [hlt]⟩
  · exact ⟨y, by rw [Array.getElem?_setIfInBounds_ne e]; exact hy⟩
set_option maxRecDepth 100000 in
theorem Tb.cell {w wr : World} {bb bl : Nat} (h : Tb w wr bb bl) {j : Nat} (hj : j < bl) : ∃ z, wr.cell? ⟨bb, j, none⟩ = some (.int .u8 z) ∧ wr.frozen? ⟨bb, j, none⟩ = false := by
  obtain ⟨_, cur, hb, hc⟩ := h
  obtain ⟨z, hz⟩ := hc j hj
  exact ⟨z, by rw [cellOf hb]; exact hz, frozen_of_row wr bb j cur 5 hb⟩
set_option maxRecDepth 100000 in
set_option maxHeartbeats 4000000 in
theorem does_append {w0 w : World} {pp l d q r n0 : Nat} {L : LS} {D : dSt} (h : PwE w0 w [(pp, PBox d r (Ptr l) (Ptr q))] l d q r L L D D) (hpp : w0.heap.size ≤ pp) (hf : Fit L D n0) (hn0 : n0 ≤ 700) (hT : Tab w0) (n p : Int) (c : UInt8) (ka : Option Addr) (kn kc : Nat) (torn at_ : Int) :
    Calls Tryz.prog 8 #[Ptr pp, .agg (actA 0 n p c ka kn kc torn at_)] w (PDo w0 pp (n0 + 11)) := by
  obtain ⟨ab, hab⟩ : ∃ ab, ab = w.heap.size := ⟨_, rfl⟩
  have HP1 := hid (show PwE w0 (w.alloc (.cells (actA 0 n p c ka kn kc torn at_) 42 (0, 0))) [(ab, (.cells (actA 0 n p c ka kn kc torn at_) 42 (0, 0))), (pp, PBox d r (Ptr l) (Ptr q))] l d q r L L D D by rw [hab]; exact h.more ((Touch.refl _ w).alloc _) w.heap.size _ (heap_alloc_new w _) (Nat.le_refl _))
  have HAb := hid (show w0.heap.size ≤ ab by rw [hab]; exact h.base.size)
  have HF := hid hf
  have HPP := hid hpp
  have HTb := hid hT
  have HN0 := hid hn0
  obtain ⟨ep, hep⟩ : ∃ ep, ep = L.ep := ⟨_, rfl⟩
  obtain ⟨m3, hm3⟩ : ∃ m3, m3 = moreM n := ⟨_, rfl⟩
  have hm3b : m3 ≤ 2 := by rw [hm3]; unfold moreM; omega
  have hmw : wrap64 ((IntKind.u64.wrap n).tmod 3) = (m3 : Int) := by rw [hm3]; exact more_wrap n
  have hepb : ep ≤ 1000000000 := by rw [hep]; exact hf.ok.ep
  have HEp := hid hep
  have HQx := hid HP1.out.qbox
  have HPx := hid (HP1.out.other (pp, PBox d r (Ptr l) (Ptr q)) (List.mem_cons_of_mem _ List.mem_cons_self))
  have HAx := hid (HP1.out.other (ab, (.cells (actA 0 n p c ka kn kc torn at_) 42 (0, 0))) List.mem_cons_self)
  have e3 : (w.alloc (.cells (actA 0 n p c ka kn kc torn at_) 42 (0, 0))).cell? ⟨pp, 3, none⟩ = some (Ptr q) := cellOf HPx.out 3
  have e4 : (w.alloc (.cells (actA 0 n p c ka kn kc torn at_) 42 (0, 0))).cell? ⟨q, 3, none⟩ = some (.int .i64 (ep : Int)) := by
    obtain ⟨vL, sa, sc, hq⟩ := HQx.out
    have c := cellOf hq 3
    rw [hep]
    simpa using c
  have e5 : (w.alloc (.cells (actA 0 n p c ka kn kc torn at_) 42 (0, 0))).cell? ⟨ab, 1, none⟩ = some (.int .i64 n) := cellOf HAx.out 1
  have HW := hid hab
  clear h hpp hf hT hep hm3
  go_enter Tryz.func8, Tryz.ntmps8
  go_upto_region 1 with fail
  rw [← hab] at *
  go_quiet (fail)
  obtain ⟨wd, hwd⟩ : ∃ wd, wd = (w.alloc (.cells (actA 0 n p c ka kn kc torn at_) 42 (0, 0))).drewN nq := ⟨_, rfl⟩
  rw [← hwd]
  have HP := hid (show PwE w0 wd [(ab, (.cells (actA 0 n p c ka kn kc torn at_) 42 (0, 0))), (pp, PBox d r (Ptr l) (Ptr q))] l d q r L L D D by rw [hwd]; exact HP1.out.adds (adds_drewN _ nq))
  clear hwd HP1 HPx HAx HQx e3 e4 e5 hab HW
  have HPx := hid (HP.out.other (pp, PBox d r (Ptr l) (Ptr q)) (List.mem_cons_of_mem _ List.mem_cons_self))
  have HAx := hid (HP.out.other (ab, (.cells (actA 0 n p c ka kn kc torn at_) 42 (0, 0))) List.mem_cons_self)
  have g0 : wd.cell? ⟨ab, 0, none⟩ = some (.int .i64 0) := cellOf HAx.out 0
  obtain ⟨bs, hbs⟩ : ∃ bs, bs = bodyB c (bodyN n) := ⟨_, rfl⟩
  obtain ⟨bl, hbl⟩ : ∃ bl, bl = bs.length := ⟨_, rfl⟩
  have hbl2 : bl < 700 := by rw [hbl, hbs]; exact len_bodyN n c
  obtain ⟨bb, hbb⟩ : ∃ bb, bb = wd.heap.size := ⟨_, rfl⟩
  have HBd := hid (show Calls Tryz.prog 22 #[.int .i64 n, .int .u8 (c.toNat : Int)] wd (fun e w' => e = .returned (.slice (some ⟨bb, 0, none⟩) bl bl) ∧ Hid (w'.heap[bb]? = some (.cells (S bs).toArray 5 (0, 0)) ∧ Adds wd w')) by rw [hbb, hbl, hbs]; exact body8_any n c wd)
  obtain ⟨z, hz⟩ : ∃ z, z = appE L bs := ⟨_, rfl⟩
  have HA1 := hid (fun (w2 : World) (h2 : PwE w0 w2 [(bb, .cells (S bs).toArray 5 (0, 0)), (ab, (.cells (actA 0 n p c ka kn kc torn at_) 42 (0, 0))), (pp, PBox d r (Ptr l) (Ptr q))] l d q r L L D D) => show Calls Tryz.prog 13 #[Ptr l, .slice (some ⟨bb, 0, none⟩) bl bl] w2 (PPw w0 [(bb, .cells (S bs).toArray 5 (0, 0)), (ab, (.cells (actA 0 n p c ka kn kc torn at_) 42 (0, 0))), (pp, PBox d r (Ptr l) (Ptr q))] l d q r (appL L bs) L D D (.int .i64 z)) by rw [hz]; exact pw_append h2 HF.out.ok (some ⟨bb, 0, none⟩) bs bl bl hbl.symm (at_block (h2.other _ List.mem_cons_self)))
  have HA2 := hid (fun (w3 : World) (h3 : PwE w0 w3 [(bb, .cells (S bs).toArray 5 (0, 0)), (ab, (.cells (actA 0 n p c ka kn kc torn at_) 42 (0, 0))), (pp, PBox d r (Ptr l) (Ptr q))] l d q r (appL L bs) L D D) => show Calls Tryz.prog 23 #[Ptr q, .slice (some ⟨bb, 0, none⟩) bl bl] w3 (PPw w0 [(bb, .cells (S bs).toArray 5 (0, 0)), (ab, (.cells (actA 0 n p c ka kn kc torn at_) 42 (0, 0))), (pp, PBox d r (Ptr l) (Ptr q))] l d q r (appL L bs) (appL L bs) D D (.int .i64 z)) by rw [hz]; exact pwq_append h3 HF.out.ok (by have := HF.out.ct; omega) ⟨bb, 0, none⟩ bs bl bl hbl.symm (at_block (h3.other _ List.mem_cons_self)) (by omega))
  have HP2 := hid (fun (w2 : World) (hA : Adds wd w2) (hb : w2.heap[bb]? = some (.cells (S bs).toArray 5 (0, 0))) => HP.out.more hA bb _ hb (by rw [hbb]; exact Nat.le_refl _))
  have HBB := hid (show w0.heap.size ≤ bb ∧ bb ≠ pp by
    have := HP.out.base.size
    have := (Array.getElem?_eq_some_iff.1 HPx.out).1
    exact ⟨by omega, by omega⟩)
  have HBl := hid hbl
  have g1 : wd.cell? ⟨ab, 1, none⟩ = some (.int .i64 n) := cellOf HAx.out 1
  have g3 : wd.cell? ⟨ab, 3, none⟩ = some (.int .u8 (c.toNat : Int)) := cellOf HAx.out 3
  clear hbs hbl hbb hz
  go_wp2_with (first
    | (go_at_call 22; refine HBd.out.mono ?_; rintro e w2 ⟨rfl, H2⟩; have HX2 := hid (HP2.out w2 H2.out.2 H2.out.1); have p2 : w2.cell? ⟨pp, 2, none⟩ = some (Ptr l) := cellOf (HX2.out.other (pp, PBox d r (Ptr l) (Ptr q)) (List.mem_cons_of_mem _ (List.mem_cons_of_mem _ List.mem_cons_self))) 2)
    | (go_at_call 13; refine (HA1.out w2 HX2.out).mono ?_; rintro e w3 ⟨rfl, H3⟩; have p3 : w3.cell? ⟨pp, 3, none⟩ = some (Ptr q) := cellOf (H3.out.other (pp, PBox d r (Ptr l) (Ptr q)) (List.mem_cons_of_mem _ (List.mem_cons_of_mem _ List.mem_cons_self))) 3)
    | (go_at_call 23; refine (HA2.out w3 H3.out).mono ?_; rintro e w4 ⟨rfl, H4⟩))
  go_loopw [51] (fun i wr => ∃ k : Nat, k ≤ bl ∧ i = .int .i64 (k : Int) ∧ Hid (Tb w4 wr bb bl)) (fun i _ => bl - (intOf i).toNat)
  case atStart => exact ⟨0, Nat.zero_le _, rfl, Tb.start (H4.out.other _ List.mem_cons_self) HBl.out.symm⟩
  case round =>
    obtain ⟨k, hk, rfl, HI⟩ := hrel
    by_cases hlt : k < bl
    · obtain ⟨y, hy, hfz⟩ := HI.out.cell hlt
      go_wp2_with fail
      go_roundw
      case rel => exact ⟨k + 1, by omega, by go_num, HI.out.next k _⟩
      case measure => simp [intOf]; omega
    · obtain rfl : k = bl := by omega
      go_wp2_with fail
      go_ret
      refine ⟨rfl, l, d, q, r, _, _, ?_, HF.out.app bs⟩
      refine H4.out.turn HI.out.1 (fun j hj => ⟨⟨_, List.mem_cons_self, hj.symm⟩, by rw [hj]; exact HBB.out.1⟩) (fun y hy => ?_)
      obtain rfl := List.mem_singleton.1 hy
      exact ⟨⟨_, List.mem_cons_of_mem _ (List.mem_cons_of_mem _ List.mem_cons_self), rfl⟩, HI.out.1.at' (H4.out.other (pp, PBox d r (Ptr l) (Ptr q)) (List.mem_cons_of_mem _ (List.mem_cons_of_mem _ List.mem_cons_self))) (fun e => HBB.out.2 e.symm)⟩
end Go.Proofs.YtllkplanjfnnmaaGreatDoor

/- Acts of a pair: a loss of power. -/
namespace Go.Proofs.YtllkplanjfnnmaaGreatDoor
open Go.RowKit

theorem KeptAt.adds {w w' : World} {ka : Option Addr} {ks : List Bool} (h : KeptAt w ka ks) (hA : Adds w w') : KeptAt w' ka ks := fun j hj => by
  obtain ⟨b, o, e, hc⟩ := h j hj
  exact ⟨b, o, e, below_adds hA hc⟩
set_option maxRecDepth 100000 in
/-- Both disks behind a loss. -/
theorem PwE.lost {w0 w w2 w3 : World} {X : List (Nat × Obj)} {l d q r d2 r2 : Nat} {L L' : LS} {D D' E : dSt} (h : PwE w0 w X l d q r L L' D D') (h2 : ∃ OD, IsDO w2 OD d2 E ∧ (∀ k, OD k → w.heap.size ≤ k ∧ k < w2.heap.size) ∧ Adds w w2) (h3 : ∃ OR, IsRO w3 OR r2 E ∧ (∀ k, OR k → w2.heap.size ≤ k ∧ k < w3.heap.size) ∧ Adds w2 w3) : PdE w0 w3 X d2 r2 E E := by
  obtain ⟨OD, a1, a2, a3⟩ := h2
  obtain ⟨OR, b1, b2, b3⟩ := h3
  obtain ⟨OL, OD0, OQ, OR0, h⟩ := h
  have z0 := h.wl.adds.size
  have z1 := a3.size
  have z2 := b3.size
  refine ⟨OD, OR, a1.adds b3, b1, fun k c c' => ?_, fun k c => ?_, fun k c => ?_, h.wl.adds.trans (a3.trans b3), fun x hx => ⟨(a3.trans b3).at' (h.oth x hx).1 id, fun c => ?_⟩⟩
  · have := a2 k c; have := b2 k c'; omega
  · rcases c with c | c
    · have := a2 k c; omega
    · have := b2 k c; omega
  · rcases c with c | c
    · have := a2 k c; omega
    · exact (b2 k c).2
  · have hl := h.olt hx
    rcases c with c | c
    · have := a2 _ c; omega
    · have := b2 _ c; omega
set_option maxRecDepth 100000 in
/-- The pair's box turns. -/
theorem PdE.box {w0 w w' : World} {d r d2 r2 pp : Nat} {o o' : Obj} {X : List (Nat × Obj)} {D D' : dSt} (h : PdE w0 w X d r D D') (hm : (pp, o) ∈ X) (hT : Touch (fun k => k = pp) w w') (hpp : w0.heap.size ≤ pp) (ho : w'.heap[pp]? = some o') (_ : d2 = d) (_ : r2 = r) : PdE w0 w' [(pp, o')] d r D D' := by
  obtain ⟨OD, OR, h⟩ := h
  have hn := (h.oth _ hm).2
  refine ⟨OD, OR, h.dk.touch hT (fun k c e => hn (.inl (by rw [← e]; exact c))), h.ro.touch hT (fun k c e => hn (.inr (by rw [← e]; exact c))), h.ap, h.low, fun k c => Nat.lt_of_lt_of_le (h.lt k c) hT.size, h.base.then hT (fun k hk c => by omega), fun x hx => ?_⟩
  obtain rfl := List.mem_singleton.1 hx
  exact ⟨ho, hn⟩
set_option maxRecDepth 100000 in
theorem ref_lost {w w' : World} {E : dSt} {e : Ending} (h : PRLose w w.heap.size E e w') : ∃ p, e = .returned (.tuple #[Ptr p, .int .i64 0]) ∧ Hid (∃ OR, IsRO w' OR p E ∧ (∀ k, OR k → w.heap.size ≤ k ∧ k < w'.heap.size) ∧ Adds w w') := by
  obtain ⟨p, hv, he, hp, hr, hA⟩ := h
  refine ⟨p, he, fun k => w.heap.size ≤ k ∧ k < w'.heap.size, ⟨hv, _, hr.mono (Nat.zero_le _), ⟨hp, (Array.getElem?_eq_some_iff.1 hr.box).1⟩, fun k hk => ?_, fun k hk => (by cases hk)⟩, fun k c => c, hA⟩
  obtain ⟨_, hc⟩ := own_type hr.held hk
  refine ⟨?_, (Array.getElem?_eq_some_iff.1 hc).1⟩
  rcases hr.held.2 with ⟨c, _⟩ | ⟨g, cap, cur, c, hb, _⟩
  · rw [c] at hk; cases hk
  · rw [c] at hk
    obtain rfl : g = k := by simpa [Value.ownBlock] using hk
    exact hb
/-- A disk behind a loss. -/
def PLoP (w : World) (D : dSt) (e : Ending) (w' : World) : Prop := ∃ p, e = .returned (.tuple #[Ptr p, .int .i64 0]) ∧ Hid (∃ OD, IsDO w' OD p D ∧ (∀ k, OD k → w.heap.size ≤ k ∧ k < w'.heap.size) ∧ Adds w w')
set_option maxRecDepth 100000 in
theorem wl_loseP {w0 w : World} {OL OD : Nat → Prop} {l p : Nat} {L : LS} {D : dSt} (h : Wl w0 w OL OD l p L D) (hn : D.W.length ≤ 900) (hsz : 0 < D.size) (ka : Option Addr) (kc : Nat) (ks : List Bool) (torn at_ : Int) (hks : KeptAt w ka ks) (hkn : ks.length ≤ 9223372036854775807) (hat : 0 ≤ torn ∧ torn < D.W.length → 0 ≤ at_ ∧ at_ ≤ 256) :
    Calls Tryz.prog 30 #[Ptr p, .agg #[.slice ka ks.length kc, .int .i64 torn, .int .i64 at_]] w (PLoP w (D.lost ks torn at_)) := by
  obtain ⟨hb, wv, hd, h1, h2, h3⟩ := h.disk
  refine (lose_ok 0 p hb wv D ka kc ks torn at_ w hd (by omega) hsz (Nat.zero_le _) hks hkn hat).mono ?_
  rintro e w' ⟨q, hb', he, hq, hhb, hd', hA⟩
  refine ⟨q, he, fun k => k = q ∨ k = hb', ⟨hb', _, hd', .inl rfl, .inr rfl, fun k hk => (by cases hk)⟩, fun k c => ?_, hA⟩
  have q1 := (Array.getElem?_eq_some_iff.1 hd'.box).1
  obtain ⟨es, cl, q2, _⟩ := hd'.held
  have q2 := (Array.getElem?_eq_some_iff.1 q2).1
  rcases c with rfl | rfl <;> omega
set_option maxRecDepth 100000 in
theorem rlose_fresh (p : Nat) (hv wv : Value) (D : dSt) (ka : Option Addr) (kc : Nat) (ks : List Bool) (torn at_ : Int) (w : World) (hd : IsRef w 0 p hv wv D) (hl : D.W.length ≤ 1000) (hk : KeptAt w ka ks) (hkn : ks.length ≤ 9223372036854775807) (hat : 0 ≤ torn ∧ torn < D.W.length → 0 ≤ at_ ∧ at_ ≤ 256) :
    Calls Tryz.prog 31 #[Ptr p, .agg #[.slice ka ks.length kc, .int .i64 torn, .int .i64 at_]] w (fun e w' => ∃ p', e = .returned (.tuple #[Ptr p', .int .i64 0]) ∧ Hid (∃ OR, IsRO w' OR p' (D.lost ks torn at_) ∧ (∀ k, OR k → w.heap.size ≤ k ∧ k < w'.heap.size) ∧ Adds w w')) := by
  refine (rlose_ok 0 w.heap.size p hv wv D ka kc ks torn at_ w hd hl (Nat.le_refl _) hk hkn hat).mono ?_
  intro e w' h
  exact ref_lost h
set_option maxRecDepth 100000 in
set_option maxHeartbeats 4000000 in
theorem does_lose_bad {w0 w : World} {pp l d q r n0 : Nat} {L : LS} {D : dSt} (h : PwE w0 w [(pp, PBox d r (Ptr l) (Ptr q))] l d q r L L D D) (hpp : w0.heap.size ≤ pp) (hf : Fit L D n0) (hn0 : n0 ≤ 700) (hT : Tab w0) (n p : Int) (c : UInt8) (ka : Option Addr) (kn kc : Nat) (torn at_ : Int) (ht : 0 ≤ torn ∧ torn < (D.W.length : Int)) (hat : at_ < 0 ∨ 256 < at_) :
    Calls Tryz.prog 8 #[Ptr pp, .agg (actA 5 n p c ka kn kc torn at_)] w (PDo w0 pp (n0 + 11)) := by
  obtain ⟨ab, hab⟩ : ∃ ab, ab = w.heap.size := ⟨_, rfl⟩
  have HP1 := hid (show PwE w0 (w.alloc (.cells (actA 5 n p c ka kn kc torn at_) 42 (0, 0))) [(ab, (.cells (actA 5 n p c ka kn kc torn at_) 42 (0, 0))), (pp, PBox d r (Ptr l) (Ptr q))] l d q r L L D D by rw [hab]; exact h.more ((Touch.refl _ w).alloc _) w.heap.size _ (heap_alloc_new w _) (Nat.le_refl _))
  have HAb := hid (show w0.heap.size ≤ ab by rw [hab]; exact h.base.size)
  have HF := hid hf
  have HPP := hid hpp
  have HTb := hid hT
  have HN0 := hid hn0
  obtain ⟨ep, hep⟩ : ∃ ep, ep = L.ep := ⟨_, rfl⟩
  obtain ⟨m3, hm3⟩ : ∃ m3, m3 = moreM n := ⟨_, rfl⟩
  have hm3b : m3 ≤ 2 := by rw [hm3]; unfold moreM; omega
  have hmw : wrap64 ((IntKind.u64.wrap n).tmod 3) = (m3 : Int) := by rw [hm3]; exact more_wrap n
  have hepb : ep ≤ 1000000000 := by rw [hep]; exact hf.ok.ep
  have HEp := hid hep
  have HQx := hid HP1.out.qbox
  have HPx := hid (HP1.out.other (pp, PBox d r (Ptr l) (Ptr q)) (List.mem_cons_of_mem _ List.mem_cons_self))
  have HAx := hid (HP1.out.other (ab, (.cells (actA 5 n p c ka kn kc torn at_) 42 (0, 0))) List.mem_cons_self)
  have e3 : (w.alloc (.cells (actA 5 n p c ka kn kc torn at_) 42 (0, 0))).cell? ⟨pp, 3, none⟩ = some (Ptr q) := cellOf HPx.out 3
  have e4 : (w.alloc (.cells (actA 5 n p c ka kn kc torn at_) 42 (0, 0))).cell? ⟨q, 3, none⟩ = some (.int .i64 (ep : Int)) := by
    obtain ⟨vL, sa, sc, hq⟩ := HQx.out
    have c := cellOf hq 3
    rw [hep]
    simpa using c
  have e5 : (w.alloc (.cells (actA 5 n p c ka kn kc torn at_) 42 (0, 0))).cell? ⟨ab, 1, none⟩ = some (.int .i64 n) := cellOf HAx.out 1
  have HW := hid hab
  clear h hpp hf hT hep hm3
  go_enter Tryz.func8, Tryz.ntmps8
  go_upto_region 1 with fail
  rw [← hab] at *
  go_quiet (fail)
  obtain ⟨wd, hwd⟩ : ∃ wd, wd = (w.alloc (.cells (actA 5 n p c ka kn kc torn at_) 42 (0, 0))).drewN nq := ⟨_, rfl⟩
  rw [← hwd]
  have HP := hid (show PwE w0 wd [(ab, (.cells (actA 5 n p c ka kn kc torn at_) 42 (0, 0))), (pp, PBox d r (Ptr l) (Ptr q))] l d q r L L D D by rw [hwd]; exact HP1.out.adds (adds_drewN _ nq))
  clear hwd HP1 HPx HAx HQx e3 e4 e5 hab HW
  have HPx := hid (HP.out.other (pp, PBox d r (Ptr l) (Ptr q)) (List.mem_cons_of_mem _ List.mem_cons_self))
  have HAx := hid (HP.out.other (ab, (.cells (actA 5 n p c ka kn kc torn at_) 42 (0, 0))) List.mem_cons_self)
  have g0 : wd.cell? ⟨ab, 0, none⟩ = some (.int .i64 5) := cellOf HAx.out 0
  have hW : D.W.length ≤ 800 := by have := HF.out.dok.waits; omega
  have HL1 := hid (show Calls Tryz.prog 30 #[Ptr d, .agg #[.slice ka kn kc, .int .i64 torn, .int .i64 at_]] wd.drew (Adding (.tuple #[.pointer none, .int .i64 2]) wd.drew) by
    obtain ⟨OL, OD, OQ, OR, hh⟩ := HP.out.adds (Touch.refl _ wd).drew
    obtain ⟨hb, wv, hd, _⟩ := hh.wl.disk
    exact (lose_bad 0 d hb wv D ka kn kc torn at_ wd.drew hd HF.out.dok.size (by omega) ht hat).mono (fun _ _ x => x))
  have HL2 := hid (fun w2 (hA : Adds wd w2) => show Calls Tryz.prog 31 #[Ptr r, .agg #[.slice ka kn kc, .int .i64 torn, .int .i64 at_]] w2 (Adding (.tuple #[.pointer none, .int .i64 2]) w2) by
    obtain ⟨OL, OD, OQ, OR, hh⟩ := HP.out.adds hA
    obtain ⟨hv, wv, hd, _⟩ := hh.ro
    exact (rlose_bad 0 r hv wv D ka kn kc torn at_ w2 hd ht hat).mono (fun _ _ x => x))
  clear ht hat
  go_upto_region 24 with fail
  refine H_begin (S := fun w' : World => Adds wd w') (by kernel_rfl) ?_
  have hS : (fun w' : World => Adds wd w') wd.drew := (Touch.refl _ wd).drew
  refine H_put (i := 0) 135 (v := Ptr pp) rfl rfl (by kernel_rfl) (by kernel_rfl) (by kernel_rfl) (fun _ _ _ h => h) (Or.inl ⟨by rfl, fun w' hw' => ?_⟩) hS ?_
  · go_simp
  simp only [Act.put, List.setIfInBounds_toArray, List.set_cons_zero, List.set_cons_succ]
  refine H_put (i := 1) 136 (v := Ptr pp) rfl rfl (by kernel_rfl) (by kernel_rfl) (by kernel_rfl) (fun _ _ _ h => h) (Or.inl ⟨by rfl, fun w' hw' => ?_⟩) hS ?_
  · go_simp
  simp only [Act.put, List.setIfInBounds_toArray, List.set_cons_zero, List.set_cons_succ]
  refine H_put (i := 2) 137 (v := .pointer (some ⟨pp, 0, none⟩)) rfl rfl (by kernel_rfl) (by kernel_rfl) (by kernel_rfl) (fun _ _ _ h => h) (Or.inl ⟨by rfl, fun w' hw' => ?_⟩) hS ?_
  · go_simp
  simp only [Act.put, List.setIfInBounds_toArray, List.set_cons_zero, List.set_cons_succ]
  refine H_put (i := 3) 138 (v := Ptr d) rfl rfl (by kernel_rfl) (by kernel_rfl) (by kernel_rfl) (fun _ _ _ h => h) (Or.inl ⟨by rfl, fun w' hw' => ?_⟩) hS ?_
  · have c : w'.cell? ⟨pp, 0, none⟩ = some (Ptr d) := cellOf (((Touch.refl (fun _ => False) wd).trans hw').at' HPx.out id) 0; go_simp
  simp only [Act.put, List.setIfInBounds_toArray, List.set_cons_zero, List.set_cons_succ]
  refine H_put (i := 4) 139 (v := .pointer (some ⟨ab, 4, none⟩)) rfl rfl (by kernel_rfl) (by kernel_rfl) (by kernel_rfl) (fun _ _ _ h => h) (Or.inl ⟨by rfl, fun w' hw' => ?_⟩) hS ?_
  · go_simp
  simp only [Act.put, List.setIfInBounds_toArray, List.set_cons_zero, List.set_cons_succ]
  refine H_put (i := 5) 140 (v := .agg #[.slice ka kn kc, .int .i64 torn, .int .i64 at_]) rfl rfl (by kernel_rfl) (by kernel_rfl) (by kernel_rfl) (fun _ _ _ h => h) (Or.inl ⟨by rfl, fun w' hw' => ?_⟩) hS ?_
  · have hbx := ((Touch.refl (fun _ => False) wd).trans hw').at' HAx.out id; have c4 : w'.cell? ⟨ab, 4, none⟩ = some (.slice ka kn kc) := cellOf hbx 4; have c5 : w'.cell? ⟨ab, 5, none⟩ = some (.int .i64 torn) := cellOf hbx 5; have c6 : w'.cell? ⟨ab, 6, none⟩ = some (.int .i64 at_) := cellOf hbx 6; go_simp
  simp only [Act.put, List.setIfInBounds_toArray, List.set_cons_zero, List.set_cons_succ]
  refine H_call (i := 6) 141 30 #[Ptr d, .agg #[.slice ka kn kc, .int .i64 torn, .int .i64 at_]] (by kernel_rfl) rfl rfl (by rfl) (by go_simp) (HL1.out) ?_
  rintro e w2 ⟨rfl, hA2⟩
  have HA2 := hid ((Touch.refl _ wd).drew.trans hA2)
  clear hA2
  have hS2 : (fun w' : World => Adds wd w') _ := HA2.out
  refine ⟨_, _, rfl, hS2, fun w' h => h, ?_⟩
  clear hS; have hS := hS2; clear hS2
  simp only [Act.put, List.setIfInBounds_toArray, List.set_cons_zero, List.set_cons_succ]
  refine H_put (i := 7) 134 (v := .tuple #[.pointer none, .int .i64 2]) rfl rfl (by kernel_rfl) (by kernel_rfl) (by kernel_rfl) (fun _ _ _ h => h) (Or.inl ⟨by rfl, fun w' hw' => ?_⟩) hS ?_
  · go_simp
  simp only [Act.put, List.setIfInBounds_toArray, List.set_cons_zero, List.set_cons_succ]
  refine H_put (i := 8) 142 (v := .pointer none) rfl rfl (by kernel_rfl) (by kernel_rfl) (by kernel_rfl) (fun _ _ _ h => h) (Or.inl ⟨by rfl, fun w' hw' => ?_⟩) hS ?_
  · go_simp
  simp only [Act.put, List.setIfInBounds_toArray, List.set_cons_zero, List.set_cons_succ]
  refine H_put (i := 9) 143 (v := .int .i64 2) rfl rfl (by kernel_rfl) (by kernel_rfl) (by kernel_rfl) (fun _ _ _ h => h) (Or.inl ⟨by rfl, fun w' hw' => ?_⟩) hS ?_
  · go_simp
  simp only [Act.put, List.setIfInBounds_toArray, List.set_cons_zero, List.set_cons_succ]
  refine H_put (i := 10) 11 (v := .pointer none) rfl rfl (by kernel_rfl) (by kernel_rfl) (by kernel_rfl) (fun _ _ _ h => h) (Or.inl ⟨by rfl, fun w' hw' => ?_⟩) hS ?_
  · go_simp
  simp only [Act.put, List.setIfInBounds_toArray, List.set_cons_zero, List.set_cons_succ]
  refine H_put (i := 11) 12 (v := .int .i64 2) rfl rfl (by kernel_rfl) (by kernel_rfl) (by kernel_rfl) (fun _ _ _ h => h) (Or.inl ⟨by rfl, fun w' hw' => ?_⟩) hS ?_
  · go_simp
  simp only [Act.put, List.setIfInBounds_toArray, List.set_cons_zero, List.set_cons_succ]
  refine wpAnyH_done (by kernel_rfl) ?_ _
  clear hS
  go_upto_region 25 with fail
  refine H_begin (S := fun w' : World => Adds w2 w') (by kernel_rfl) ?_
  have hS : (fun w' : World => Adds w2 w') w2.drew := (Touch.refl _ w2).drew
  refine H_put (i := 0) 145 (v := Ptr pp) rfl rfl (by kernel_rfl) (by kernel_rfl) (by kernel_rfl) (fun _ _ _ h => h) (Or.inl ⟨by rfl, fun w' hw' => ?_⟩) hS ?_
  · go_simp
  simp only [Act.put, List.setIfInBounds_toArray, List.set_cons_zero, List.set_cons_succ]
  refine H_put (i := 1) 146 (v := Ptr pp) rfl rfl (by kernel_rfl) (by kernel_rfl) (by kernel_rfl) (fun _ _ _ h => h) (Or.inl ⟨by rfl, fun w' hw' => ?_⟩) hS ?_
  · go_simp
  simp only [Act.put, List.setIfInBounds_toArray, List.set_cons_zero, List.set_cons_succ]
  refine H_put (i := 2) 147 (v := .pointer (some ⟨pp, 1, none⟩)) rfl rfl (by kernel_rfl) (by kernel_rfl) (by kernel_rfl) (fun _ _ _ h => h) (Or.inl ⟨by rfl, fun w' hw' => ?_⟩) hS ?_
  · go_simp
  simp only [Act.put, List.setIfInBounds_toArray, List.set_cons_zero, List.set_cons_succ]
  refine H_put (i := 3) 148 (v := Ptr r) rfl rfl (by kernel_rfl) (by kernel_rfl) (by kernel_rfl) (fun _ _ _ h => h) (Or.inl ⟨by rfl, fun w' hw' => ?_⟩) hS ?_
  · have c : w'.cell? ⟨pp, 1, none⟩ = some (Ptr r) := cellOf ((HA2.out.trans hw').at' HPx.out id) 1; go_simp
  simp only [Act.put, List.setIfInBounds_toArray, List.set_cons_zero, List.set_cons_succ]
  refine H_put (i := 4) 149 (v := .pointer (some ⟨ab, 4, none⟩)) rfl rfl (by kernel_rfl) (by kernel_rfl) (by kernel_rfl) (fun _ _ _ h => h) (Or.inl ⟨by rfl, fun w' hw' => ?_⟩) hS ?_
  · go_simp
  simp only [Act.put, List.setIfInBounds_toArray, List.set_cons_zero, List.set_cons_succ]
  refine H_put (i := 5) 150 (v := .agg #[.slice ka kn kc, .int .i64 torn, .int .i64 at_]) rfl rfl (by kernel_rfl) (by kernel_rfl) (by kernel_rfl) (fun _ _ _ h => h) (Or.inl ⟨by rfl, fun w' hw' => ?_⟩) hS ?_
  · have hbx := (HA2.out.trans hw').at' HAx.out id; have c4 : w'.cell? ⟨ab, 4, none⟩ = some (.slice ka kn kc) := cellOf hbx 4; have c5 : w'.cell? ⟨ab, 5, none⟩ = some (.int .i64 torn) := cellOf hbx 5; have c6 : w'.cell? ⟨ab, 6, none⟩ = some (.int .i64 at_) := cellOf hbx 6; go_simp
  simp only [Act.put, List.setIfInBounds_toArray, List.set_cons_zero, List.set_cons_succ]
  refine H_call (i := 6) 151 31 #[Ptr r, .agg #[.slice ka kn kc, .int .i64 torn, .int .i64 at_]] (by kernel_rfl) rfl rfl (by rfl) (by go_simp) (HL2.out w2.drew (HA2.out.trans (Touch.refl _ w2).drew)) ?_
  rintro e w3 ⟨rfl, hA3⟩
  have HA3 := hid ((Touch.refl _ w2).drew.trans hA3)
  clear hA3
  have hS2 : (fun w' : World => Adds w2 w') _ := HA3.out
  refine ⟨_, _, rfl, hS2, fun w' h => h, ?_⟩
  clear hS; have hS := hS2; clear hS2
  simp only [Act.put, List.setIfInBounds_toArray, List.set_cons_zero, List.set_cons_succ]
  refine H_put (i := 7) 144 (v := .tuple #[.pointer none, .int .i64 2]) rfl rfl (by kernel_rfl) (by kernel_rfl) (by kernel_rfl) (fun _ _ _ h => h) (Or.inl ⟨by rfl, fun w' hw' => ?_⟩) hS ?_
  · go_simp
  simp only [Act.put, List.setIfInBounds_toArray, List.set_cons_zero, List.set_cons_succ]
  refine H_put (i := 8) 152 (v := .pointer none) rfl rfl (by kernel_rfl) (by kernel_rfl) (by kernel_rfl) (fun _ _ _ h => h) (Or.inl ⟨by rfl, fun w' hw' => ?_⟩) hS ?_
  · go_simp
  simp only [Act.put, List.setIfInBounds_toArray, List.set_cons_zero, List.set_cons_succ]
  refine H_put (i := 9) 153 (v := .int .i64 2) rfl rfl (by kernel_rfl) (by kernel_rfl) (by kernel_rfl) (fun _ _ _ h => h) (Or.inl ⟨by rfl, fun w' hw' => ?_⟩) hS ?_
  · go_simp
  simp only [Act.put, List.setIfInBounds_toArray, List.set_cons_zero, List.set_cons_succ]
  refine H_put (i := 10) 13 (v := .pointer none) rfl rfl (by kernel_rfl) (by kernel_rfl) (by kernel_rfl) (fun _ _ _ h => h) (Or.inl ⟨by rfl, fun w' hw' => ?_⟩) hS ?_
  · go_simp
  simp only [Act.put, List.setIfInBounds_toArray, List.set_cons_zero, List.set_cons_succ]
  refine H_put (i := 11) 14 (v := .int .i64 2) rfl rfl (by kernel_rfl) (by kernel_rfl) (by kernel_rfl) (fun _ _ _ h => h) (Or.inl ⟨by rfl, fun w' hw' => ?_⟩) hS ?_
  · go_simp
  simp only [Act.put, List.setIfInBounds_toArray, List.set_cons_zero, List.set_cons_succ]
  refine wpAnyH_done (by kernel_rfl) ?_ _
  clear hS
  go_wp2_with fail
  go_ret
  exact ⟨rfl, l, d, q, r, L, D, (HP.out.adds (HA2.out.trans HA3.out)).fewer (fun x hx => List.mem_cons_of_mem _ hx), HF.out.mono (by omega)⟩
set_option maxRecDepth 100000 in
set_option maxHeartbeats 4000000 in
theorem does_lose_ok {w0 w : World} {pp l d q r n0 : Nat} {L : LS} {D : dSt} (h : PwE w0 w [(pp, PBox d r (Ptr l) (Ptr q))] l d q r L L D D) (hpp : w0.heap.size ≤ pp) (hf : Fit L D n0) (hn0 : n0 ≤ 700) (hT : Tab w0) (n p : Int) (c : UInt8) (ka : Option Addr) (kn kc : Nat) (torn at_ : Int) (ks : List Bool) (hks : KeptAt w0 ka ks) (hkn : ks.length = kn) (hk64 : kn ≤ 9223372036854775807) (hat : 0 ≤ torn ∧ torn < (D.W.length : Int) → 0 ≤ at_ ∧ at_ ≤ 256) :
    Calls Tryz.prog 8 #[Ptr pp, .agg (actA 5 n p c ka kn kc torn at_)] w (PDo w0 pp (n0 + 11)) := by
  obtain ⟨ab, hab⟩ : ∃ ab, ab = w.heap.size := ⟨_, rfl⟩
  have HP1 := hid (show PwE w0 (w.alloc (.cells (actA 5 n p c ka kn kc torn at_) 42 (0, 0))) [(ab, (.cells (actA 5 n p c ka kn kc torn at_) 42 (0, 0))), (pp, PBox d r (Ptr l) (Ptr q))] l d q r L L D D by rw [hab]; exact h.more ((Touch.refl _ w).alloc _) w.heap.size _ (heap_alloc_new w _) (Nat.le_refl _))
  have HAb := hid (show w0.heap.size ≤ ab by rw [hab]; exact h.base.size)
  have HF := hid hf
  have HPP := hid hpp
  have HTb := hid hT
  have HN0 := hid hn0
  obtain ⟨ep, hep⟩ : ∃ ep, ep = L.ep := ⟨_, rfl⟩
  obtain ⟨m3, hm3⟩ : ∃ m3, m3 = moreM n := ⟨_, rfl⟩
  have hm3b : m3 ≤ 2 := by rw [hm3]; unfold moreM; omega
  have hmw : wrap64 ((IntKind.u64.wrap n).tmod 3) = (m3 : Int) := by rw [hm3]; exact more_wrap n
  have hepb : ep ≤ 1000000000 := by rw [hep]; exact hf.ok.ep
  have HEp := hid hep
  have HQx := hid HP1.out.qbox
  have HPx := hid (HP1.out.other (pp, PBox d r (Ptr l) (Ptr q)) (List.mem_cons_of_mem _ List.mem_cons_self))
  have HAx := hid (HP1.out.other (ab, (.cells (actA 5 n p c ka kn kc torn at_) 42 (0, 0))) List.mem_cons_self)
  have e3 : (w.alloc (.cells (actA 5 n p c ka kn kc torn at_) 42 (0, 0))).cell? ⟨pp, 3, none⟩ = some (Ptr q) := cellOf HPx.out 3
  have e4 : (w.alloc (.cells (actA 5 n p c ka kn kc torn at_) 42 (0, 0))).cell? ⟨q, 3, none⟩ = some (.int .i64 (ep : Int)) := by
    obtain ⟨vL, sa, sc, hq⟩ := HQx.out
    have c := cellOf hq 3
    rw [hep]
    simpa using c
  have e5 : (w.alloc (.cells (actA 5 n p c ka kn kc torn at_) 42 (0, 0))).cell? ⟨ab, 1, none⟩ = some (.int .i64 n) := cellOf HAx.out 1
  have HW := hid hab
  clear h hpp hf hT hep hm3
  go_enter Tryz.func8, Tryz.ntmps8
  go_upto_region 1 with fail
  rw [← hab] at *
  go_quiet (fail)
  obtain ⟨wd, hwd⟩ : ∃ wd, wd = (w.alloc (.cells (actA 5 n p c ka kn kc torn at_) 42 (0, 0))).drewN nq := ⟨_, rfl⟩
  rw [← hwd]
  have HP := hid (show PwE w0 wd [(ab, (.cells (actA 5 n p c ka kn kc torn at_) 42 (0, 0))), (pp, PBox d r (Ptr l) (Ptr q))] l d q r L L D D by rw [hwd]; exact HP1.out.adds (adds_drewN _ nq))
  clear hwd HP1 HPx HAx HQx e3 e4 e5 hab HW
  have HPx := hid (HP.out.other (pp, PBox d r (Ptr l) (Ptr q)) (List.mem_cons_of_mem _ List.mem_cons_self))
  have HAx := hid (HP.out.other (ab, (.cells (actA 5 n p c ka kn kc torn at_) 42 (0, 0))) List.mem_cons_self)
  have g0 : wd.cell? ⟨ab, 0, none⟩ = some (.int .i64 5) := cellOf HAx.out 0
  have HKs := hid hks
  have hW : D.W.length ≤ 800 := by have := HF.out.dok.waits; omega
  have HL1 := hid (show Calls Tryz.prog 30 #[Ptr d, .agg #[.slice ka kn kc, .int .i64 torn, .int .i64 at_]] wd.drew (PLoP wd.drew (D.lost ks torn at_)) by
    obtain ⟨OL, OD, OQ, OR, hh⟩ := HP.out.adds (Touch.refl _ wd).drew
    rw [← hkn]
    exact wl_loseP hh.wl (by omega) HF.out.dok.size ka kc ks torn at_ (hks.adds hh.wl.adds) (by omega) hat)
  have HL2 := hid (fun w2 (hA : Adds wd w2) => show Calls Tryz.prog 31 #[Ptr r, .agg #[.slice ka kn kc, .int .i64 torn, .int .i64 at_]] w2 (fun e w' => ∃ p, e = .returned (.tuple #[Ptr p, .int .i64 0]) ∧ Hid (∃ OR, IsRO w' OR p (D.lost ks torn at_) ∧ (∀ k, OR k → w2.heap.size ≤ k ∧ k < w'.heap.size) ∧ Adds w2 w')) by
    obtain ⟨OL, OD, OQ, OR, hh⟩ := HP.out.adds hA
    obtain ⟨hv, wv, hd, _⟩ := hh.ro
    rw [← hkn]
    exact (rlose_fresh r hv wv D ka kc ks torn at_ w2 hd (by omega) (hks.adds hh.wl.adds) (by omega) hat))
  have HOk := hid (show opOk (D.lost ks torn at_) (L.fr : Int) (L.ct : Int) (L.ep : Int) from ⟨by
    have h1 := HF.out.fits
    have h2 := HF.out.ct
    have h3 := HF.out.ct1
    have h4 := HF.out.ep
    have h5 := HF.out.ok.ep
    show ¬ ((L.fr : Int) < 0 ∨ (L.ct : Int) < 1 ∨ 10000 < (L.ct : Int) ∨ D.size - (L.ct : Int) < (L.fr : Int) ∨ (L.ep : Int) < 1 ∨ 1000000000 < (L.ep : Int))
    omega, by show (-1 : Int) ≠ 0; decide⟩)
  have HFl := hid (HF.out.lost ks torn at_)
  obtain ⟨vL, sa, sc, hqb⟩ := HP.out.qbox
  have HQB := hid hqb
  have HQP := hid (show q ≠ pp from type_ne hqb HPx.out (by decide))
  clear hqb hks hat hkn
  go_upto_region 24 with fail
  refine H_begin (S := fun w' : World => Adds wd w') (by kernel_rfl) ?_
  have hS : (fun w' : World => Adds wd w') wd.drew := (Touch.refl _ wd).drew
  refine H_put (i := 0) 135 (v := Ptr pp) rfl rfl (by kernel_rfl) (by kernel_rfl) (by kernel_rfl) (fun _ _ _ h => h) (Or.inl ⟨by rfl, fun w' hw' => ?_⟩) hS ?_
  · go_simp
  simp only [Act.put, List.setIfInBounds_toArray, List.set_cons_zero, List.set_cons_succ]
  refine H_put (i := 1) 136 (v := Ptr pp) rfl rfl (by kernel_rfl) (by kernel_rfl) (by kernel_rfl) (fun _ _ _ h => h) (Or.inl ⟨by rfl, fun w' hw' => ?_⟩) hS ?_
  · go_simp
  simp only [Act.put, List.setIfInBounds_toArray, List.set_cons_zero, List.set_cons_succ]
  refine H_put (i := 2) 137 (v := .pointer (some ⟨pp, 0, none⟩)) rfl rfl (by kernel_rfl) (by kernel_rfl) (by kernel_rfl) (fun _ _ _ h => h) (Or.inl ⟨by rfl, fun w' hw' => ?_⟩) hS ?_
  · go_simp
  simp only [Act.put, List.setIfInBounds_toArray, List.set_cons_zero, List.set_cons_succ]
  refine H_put (i := 3) 138 (v := Ptr d) rfl rfl (by kernel_rfl) (by kernel_rfl) (by kernel_rfl) (fun _ _ _ h => h) (Or.inl ⟨by rfl, fun w' hw' => ?_⟩) hS ?_
  · have c : w'.cell? ⟨pp, 0, none⟩ = some (Ptr d) := cellOf (((Touch.refl (fun _ => False) wd).trans hw').at' HPx.out id) 0; go_simp
  simp only [Act.put, List.setIfInBounds_toArray, List.set_cons_zero, List.set_cons_succ]
  refine H_put (i := 4) 139 (v := .pointer (some ⟨ab, 4, none⟩)) rfl rfl (by kernel_rfl) (by kernel_rfl) (by kernel_rfl) (fun _ _ _ h => h) (Or.inl ⟨by rfl, fun w' hw' => ?_⟩) hS ?_
  · go_simp
  simp only [Act.put, List.setIfInBounds_toArray, List.set_cons_zero, List.set_cons_succ]
  refine H_put (i := 5) 140 (v := .agg #[.slice ka kn kc, .int .i64 torn, .int .i64 at_]) rfl rfl (by kernel_rfl) (by kernel_rfl) (by kernel_rfl) (fun _ _ _ h => h) (Or.inl ⟨by rfl, fun w' hw' => ?_⟩) hS ?_
  · have hbx := ((Touch.refl (fun _ => False) wd).trans hw').at' HAx.out id; have c4 : w'.cell? ⟨ab, 4, none⟩ = some (.slice ka kn kc) := cellOf hbx 4; have c5 : w'.cell? ⟨ab, 5, none⟩ = some (.int .i64 torn) := cellOf hbx 5; have c6 : w'.cell? ⟨ab, 6, none⟩ = some (.int .i64 at_) := cellOf hbx 6; go_simp
  simp only [Act.put, List.setIfInBounds_toArray, List.set_cons_zero, List.set_cons_succ]
  refine H_call (i := 6) 141 30 #[Ptr d, .agg #[.slice ka kn kc, .int .i64 torn, .int .i64 at_]] (by kernel_rfl) rfl rfl (by rfl) (by go_simp) (HL1.out) ?_
  rintro e w2 ⟨d2, rfl, H2⟩
  have HA2 := hid (show Adds wd w2 by obtain ⟨_, _, _, hA⟩ := H2.out; exact (Touch.refl _ wd).drew.trans hA)
  have hS2 : (fun w' : World => Adds wd w') _ := HA2.out
  refine ⟨_, _, rfl, hS2, fun w' h => h, ?_⟩
  clear hS; have hS := hS2; clear hS2
  simp only [Act.put, List.setIfInBounds_toArray, List.set_cons_zero, List.set_cons_succ]
  refine H_put (i := 7) 134 (v := .tuple #[Ptr d2, .int .i64 0]) rfl rfl (by kernel_rfl) (by kernel_rfl) (by kernel_rfl) (fun _ _ _ h => h) (Or.inl ⟨by rfl, fun w' hw' => ?_⟩) hS ?_
  · go_simp
  simp only [Act.put, List.setIfInBounds_toArray, List.set_cons_zero, List.set_cons_succ]
  refine H_put (i := 8) 142 (v := Ptr d2) rfl rfl (by kernel_rfl) (by kernel_rfl) (by kernel_rfl) (fun _ _ _ h => h) (Or.inl ⟨by rfl, fun w' hw' => ?_⟩) hS ?_
  · go_simp
  simp only [Act.put, List.setIfInBounds_toArray, List.set_cons_zero, List.set_cons_succ]
  refine H_put (i := 9) 143 (v := .int .i64 0) rfl rfl (by kernel_rfl) (by kernel_rfl) (by kernel_rfl) (fun _ _ _ h => h) (Or.inl ⟨by rfl, fun w' hw' => ?_⟩) hS ?_
  · go_simp
  simp only [Act.put, List.setIfInBounds_toArray, List.set_cons_zero, List.set_cons_succ]
  refine H_put (i := 10) 11 (v := Ptr d2) rfl rfl (by kernel_rfl) (by kernel_rfl) (by kernel_rfl) (fun _ _ _ h => h) (Or.inl ⟨by rfl, fun w' hw' => ?_⟩) hS ?_
  · go_simp
  simp only [Act.put, List.setIfInBounds_toArray, List.set_cons_zero, List.set_cons_succ]
  refine H_put (i := 11) 12 (v := .int .i64 0) rfl rfl (by kernel_rfl) (by kernel_rfl) (by kernel_rfl) (fun _ _ _ h => h) (Or.inl ⟨by rfl, fun w' hw' => ?_⟩) hS ?_
  · go_simp
  simp only [Act.put, List.setIfInBounds_toArray, List.set_cons_zero, List.set_cons_succ]
  refine wpAnyH_done (by kernel_rfl) ?_ _
  clear hS
  go_upto_region 25 with fail
  refine H_begin (S := fun w' : World => Adds w2 w') (by kernel_rfl) ?_
  have hS : (fun w' : World => Adds w2 w') w2.drew := (Touch.refl _ w2).drew
  refine H_put (i := 0) 145 (v := Ptr pp) rfl rfl (by kernel_rfl) (by kernel_rfl) (by kernel_rfl) (fun _ _ _ h => h) (Or.inl ⟨by rfl, fun w' hw' => ?_⟩) hS ?_
  · go_simp
  simp only [Act.put, List.setIfInBounds_toArray, List.set_cons_zero, List.set_cons_succ]
  refine H_put (i := 1) 146 (v := Ptr pp) rfl rfl (by kernel_rfl) (by kernel_rfl) (by kernel_rfl) (fun _ _ _ h => h) (Or.inl ⟨by rfl, fun w' hw' => ?_⟩) hS ?_
  · go_simp
  simp only [Act.put, List.setIfInBounds_toArray, List.set_cons_zero, List.set_cons_succ]
  refine H_put (i := 2) 147 (v := .pointer (some ⟨pp, 1, none⟩)) rfl rfl (by kernel_rfl) (by kernel_rfl) (by kernel_rfl) (fun _ _ _ h => h) (Or.inl ⟨by rfl, fun w' hw' => ?_⟩) hS ?_
  · go_simp
  simp only [Act.put, List.setIfInBounds_toArray, List.set_cons_zero, List.set_cons_succ]
  refine H_put (i := 3) 148 (v := Ptr r) rfl rfl (by kernel_rfl) (by kernel_rfl) (by kernel_rfl) (fun _ _ _ h => h) (Or.inl ⟨by rfl, fun w' hw' => ?_⟩) hS ?_
  · have c : w'.cell? ⟨pp, 1, none⟩ = some (Ptr r) := cellOf ((HA2.out.trans hw').at' HPx.out id) 1; go_simp
  simp only [Act.put, List.setIfInBounds_toArray, List.set_cons_zero, List.set_cons_succ]
  refine H_put (i := 4) 149 (v := .pointer (some ⟨ab, 4, none⟩)) rfl rfl (by kernel_rfl) (by kernel_rfl) (by kernel_rfl) (fun _ _ _ h => h) (Or.inl ⟨by rfl, fun w' hw' => ?_⟩) hS ?_
  · go_simp
  simp only [Act.put, List.setIfInBounds_toArray, List.set_cons_zero, List.set_cons_succ]
  refine H_put (i := 5) 150 (v := .agg #[.slice ka kn kc, .int .i64 torn, .int .i64 at_]) rfl rfl (by kernel_rfl) (by kernel_rfl) (by kernel_rfl) (fun _ _ _ h => h) (Or.inl ⟨by rfl, fun w' hw' => ?_⟩) hS ?_
  · have hbx := (HA2.out.trans hw').at' HAx.out id; have c4 : w'.cell? ⟨ab, 4, none⟩ = some (.slice ka kn kc) := cellOf hbx 4; have c5 : w'.cell? ⟨ab, 5, none⟩ = some (.int .i64 torn) := cellOf hbx 5; have c6 : w'.cell? ⟨ab, 6, none⟩ = some (.int .i64 at_) := cellOf hbx 6; go_simp
  simp only [Act.put, List.setIfInBounds_toArray, List.set_cons_zero, List.set_cons_succ]
  refine H_call (i := 6) 151 31 #[Ptr r, .agg #[.slice ka kn kc, .int .i64 torn, .int .i64 at_]] (by kernel_rfl) rfl rfl (by rfl) (by go_simp) (HL2.out w2.drew (HA2.out.trans (Touch.refl _ w2).drew)) ?_
  rintro e w3 ⟨r2, rfl, H3⟩
  have HA3 := hid (show Adds w2 w3 by obtain ⟨_, _, _, hA⟩ := H3.out; exact (Touch.refl _ w2).drew.trans hA)
  have hS2 : (fun w' : World => Adds w2 w') _ := HA3.out
  refine ⟨_, _, rfl, hS2, fun w' h => h, ?_⟩
  clear hS; have hS := hS2; clear hS2
  simp only [Act.put, List.setIfInBounds_toArray, List.set_cons_zero, List.set_cons_succ]
  refine H_put (i := 7) 144 (v := .tuple #[Ptr r2, .int .i64 0]) rfl rfl (by kernel_rfl) (by kernel_rfl) (by kernel_rfl) (fun _ _ _ h => h) (Or.inl ⟨by rfl, fun w' hw' => ?_⟩) hS ?_
  · go_simp
  simp only [Act.put, List.setIfInBounds_toArray, List.set_cons_zero, List.set_cons_succ]
  refine H_put (i := 8) 152 (v := Ptr r2) rfl rfl (by kernel_rfl) (by kernel_rfl) (by kernel_rfl) (fun _ _ _ h => h) (Or.inl ⟨by rfl, fun w' hw' => ?_⟩) hS ?_
  · go_simp
  simp only [Act.put, List.setIfInBounds_toArray, List.set_cons_zero, List.set_cons_succ]
  refine H_put (i := 9) 153 (v := .int .i64 0) rfl rfl (by kernel_rfl) (by kernel_rfl) (by kernel_rfl) (fun _ _ _ h => h) (Or.inl ⟨by rfl, fun w' hw' => ?_⟩) hS ?_
  · go_simp
  simp only [Act.put, List.setIfInBounds_toArray, List.set_cons_zero, List.set_cons_succ]
  refine H_put (i := 10) 13 (v := Ptr r2) rfl rfl (by kernel_rfl) (by kernel_rfl) (by kernel_rfl) (fun _ _ _ h => h) (Or.inl ⟨by rfl, fun w' hw' => ?_⟩) hS ?_
  · go_simp
  simp only [Act.put, List.setIfInBounds_toArray, List.set_cons_zero, List.set_cons_succ]
  refine H_put (i := 11) 14 (v := .int .i64 0) rfl rfl (by kernel_rfl) (by kernel_rfl) (by kernel_rfl) (fun _ _ _ h => h) (Or.inl ⟨by rfl, fun w' hw' => ?_⟩) hS ?_
  · go_simp
  simp only [Act.put, List.setIfInBounds_toArray, List.set_cons_zero, List.set_cons_succ]
  refine wpAnyH_done (by kernel_rfl) ?_ _
  clear hS
  have HA23 := hid (HA2.out.trans HA3.out)
  have HB3 := hid (HA23.out.at' HPx.out id)
  have c03 : w3.cell? ⟨pp, 0, none⟩ = some (Ptr d) := cellOf HB3.out 0
  have f03 : w3.frozen? ⟨pp, 0, none⟩ = false := frozen_of_row w3 pp 0 _ 35 HB3.out
  have c13 : w3.cell? ⟨pp, 1, none⟩ = some (Ptr r) := cellOf HB3.out 1
  have f13 : w3.frozen? ⟨pp, 1, none⟩ = false := frozen_of_row w3 pp 1 _ 35 HB3.out
  go_upto_region 29 with fail
  obtain ⟨w4, hw4⟩ : ∃ w4, w4 = (w3.setCell ⟨pp, 0, none⟩ (Ptr d2)).setCell ⟨pp, 1, none⟩ (Ptr r2) := ⟨_, rfl⟩
  rw [← hw4]
  have hT4 : Touch (fun k => k = pp) w3 w4 := by rw [hw4]; exact Touch.setCell (T := fun k => k = pp) (Touch.setCell (T := fun k => k = pp) (Touch.refl _ w3) (p := ⟨pp, 0, none⟩) (fun _ => rfl) _) (p := ⟨pp, 1, none⟩) (fun _ => rfl) _
  have HB4 := hid (show w4.heap[pp]? = some (PBox d2 r2 (Ptr l) (Ptr q)) by rw [hw4]; exact heap_setCell_same _ pp 1 _ 35 _ (heap_setCell_same w3 pp 0 _ 35 _ HB3.out))
  have HQ4 := hid (hT4.at' (HA23.out.at' HQB.out id) HQP.out)
  have HD4 := hid ((((HP.out.adds (Touch.refl _ wd).drew).lost H2.out (by obtain ⟨OR, b1, b2, b3⟩ := H3.out; exact ⟨OR, b1, b2, (Touch.refl _ w2).drew.trans b3⟩)).box (d2 := d2) (r2 := r2) (List.mem_cons_of_mem _ List.mem_cons_self) hT4 HPP.out HB4.out rfl rfl))
  have HO := hid (fun w5 (hA : Adds w4 w5) (fr ct e : Int) => p_open (HD4.out.adds hA) HPP.out (fun x hx => (by cases hx)) HFl.out.dok (by omega) HFl.out.size HTb.out fr ct e)
  clear hw4 hT4 c03 c13 f03 f13
  refine F_begin (S := fun w' : World => w'.heap[pp]? = some (PBox d2 r2 (Ptr l) (Ptr q)) ∧ w'.heap[q]? = some (.cells #[Ptr r, .int .i64 (L.fr : Int), .int .i64 (L.ct : Int), .int .i64 (L.ep : Int), .bool L.cl, vL, .slice sa L.R.length sc] 67 (0, 0))) (X := 22) (by kernel_rfl) ?_
  have hS : (fun w' : World => w'.heap[pp]? = some (PBox d2 r2 (Ptr l) (Ptr q)) ∧ w'.heap[q]? = some (.cells #[Ptr r, .int .i64 (L.fr : Int), .int .i64 (L.ct : Int), .int .i64 (L.ep : Int), .bool L.cl, vL, .slice sa L.R.length sc] 67 (0, 0))) w4.drew := ⟨HB4.out, HQ4.out⟩
  refine F_put (i := 0) 172 (v := Ptr pp) rfl rfl (by kernel_rfl) (by kernel_rfl) (by kernel_rfl) (by kernel_rfl) (by kernel_rfl) (fun _ _ _ h => h) (Or.inl ⟨by rfl, fun w' hw' => ?_⟩) hS ?_
  · go_simp
  simp only [Act.put, List.setIfInBounds_toArray, List.set_cons_zero, List.set_cons_succ]
  refine F_put (i := 1) 173 (v := Ptr pp) rfl rfl (by kernel_rfl) (by kernel_rfl) (by kernel_rfl) (by kernel_rfl) (by kernel_rfl) (fun _ _ _ h => h) (Or.inl ⟨by rfl, fun w' hw' => ?_⟩) hS ?_
  · go_simp
  simp only [Act.put, List.setIfInBounds_toArray, List.set_cons_zero, List.set_cons_succ]
  refine F_put (i := 2) 174 (v := Ptr pp) rfl rfl (by kernel_rfl) (by kernel_rfl) (by kernel_rfl) (by kernel_rfl) (by kernel_rfl) (fun _ _ _ h => h) (Or.inl ⟨by rfl, fun w' hw' => ?_⟩) hS ?_
  · go_simp
  simp only [Act.put, List.setIfInBounds_toArray, List.set_cons_zero, List.set_cons_succ]
  refine F_put (i := 3) 175 (v := .pointer (some ⟨pp, 3, none⟩)) rfl rfl (by kernel_rfl) (by kernel_rfl) (by kernel_rfl) (by kernel_rfl) (by kernel_rfl) (fun _ _ _ h => h) (Or.inl ⟨by rfl, fun w' hw' => ?_⟩) hS ?_
  · go_simp
  simp only [Act.put, List.setIfInBounds_toArray, List.set_cons_zero, List.set_cons_succ]
  refine F_put (i := 4) 176 (v := Ptr q) rfl rfl (by kernel_rfl) (by kernel_rfl) (by kernel_rfl) (by kernel_rfl) (by kernel_rfl) (fun _ _ _ h => h) (Or.inl ⟨by rfl, fun w' hw' => ?_⟩) hS ?_
  · have c : w'.cell? ⟨pp, 3, none⟩ = some (Ptr q) := cellOf hw'.1 3; go_simp
  simp only [Act.put, List.setIfInBounds_toArray, List.set_cons_zero, List.set_cons_succ]
  refine F_put (i := 5) 177 (v := Ptr q) rfl rfl (by kernel_rfl) (by kernel_rfl) (by kernel_rfl) (by kernel_rfl) (by kernel_rfl) (fun _ _ _ h => h) (Or.inl ⟨by rfl, fun w' hw' => ?_⟩) hS ?_
  · go_simp
  simp only [Act.put, List.setIfInBounds_toArray, List.set_cons_zero, List.set_cons_succ]
  refine F_put (i := 6) 178 (v := .pointer (some ⟨q, 1, none⟩)) rfl rfl (by kernel_rfl) (by kernel_rfl) (by kernel_rfl) (by kernel_rfl) (by kernel_rfl) (fun _ _ _ h => h) (Or.inl ⟨by rfl, fun w' hw' => ?_⟩) hS ?_
  · go_simp
  simp only [Act.put, List.setIfInBounds_toArray, List.set_cons_zero, List.set_cons_succ]
  refine F_put (i := 7) 179 (v := .int .i64 (L.fr : Int)) rfl rfl (by kernel_rfl) (by kernel_rfl) (by kernel_rfl) (by kernel_rfl) (by kernel_rfl) (fun _ _ _ h => h) (Or.inl ⟨by rfl, fun w' hw' => ?_⟩) hS ?_
  · have c : w'.cell? ⟨q, 1, none⟩ = some (.int .i64 (L.fr : Int)) := cellOf hw'.2 1; go_simp
  simp only [Act.put, List.setIfInBounds_toArray, List.set_cons_zero, List.set_cons_succ]
  refine F_put (i := 8) 180 (v := Ptr pp) rfl rfl (by kernel_rfl) (by kernel_rfl) (by kernel_rfl) (by kernel_rfl) (by kernel_rfl) (fun _ _ _ h => h) (Or.inl ⟨by rfl, fun w' hw' => ?_⟩) hS ?_
  · go_simp
  simp only [Act.put, List.setIfInBounds_toArray, List.set_cons_zero, List.set_cons_succ]
  refine F_put (i := 9) 181 (v := Ptr pp) rfl rfl (by kernel_rfl) (by kernel_rfl) (by kernel_rfl) (by kernel_rfl) (by kernel_rfl) (fun _ _ _ h => h) (Or.inl ⟨by rfl, fun w' hw' => ?_⟩) hS ?_
  · go_simp
  simp only [Act.put, List.setIfInBounds_toArray, List.set_cons_zero, List.set_cons_succ]
  refine F_put (i := 10) 182 (v := .pointer (some ⟨pp, 3, none⟩)) rfl rfl (by kernel_rfl) (by kernel_rfl) (by kernel_rfl) (by kernel_rfl) (by kernel_rfl) (fun _ _ _ h => h) (Or.inl ⟨by rfl, fun w' hw' => ?_⟩) hS ?_
  · go_simp
  simp only [Act.put, List.setIfInBounds_toArray, List.set_cons_zero, List.set_cons_succ]
  refine F_put (i := 11) 183 (v := Ptr q) rfl rfl (by kernel_rfl) (by kernel_rfl) (by kernel_rfl) (by kernel_rfl) (by kernel_rfl) (fun _ _ _ h => h) (Or.inl ⟨by rfl, fun w' hw' => ?_⟩) hS ?_
  · have c : w'.cell? ⟨pp, 3, none⟩ = some (Ptr q) := cellOf hw'.1 3; go_simp
  simp only [Act.put, List.setIfInBounds_toArray, List.set_cons_zero, List.set_cons_succ]
  refine F_put (i := 12) 184 (v := Ptr q) rfl rfl (by kernel_rfl) (by kernel_rfl) (by kernel_rfl) (by kernel_rfl) (by kernel_rfl) (fun _ _ _ h => h) (Or.inl ⟨by rfl, fun w' hw' => ?_⟩) hS ?_
  · go_simp
  simp only [Act.put, List.setIfInBounds_toArray, List.set_cons_zero, List.set_cons_succ]
  refine F_put (i := 13) 185 (v := .pointer (some ⟨q, 2, none⟩)) rfl rfl (by kernel_rfl) (by kernel_rfl) (by kernel_rfl) (by kernel_rfl) (by kernel_rfl) (fun _ _ _ h => h) (Or.inl ⟨by rfl, fun w' hw' => ?_⟩) hS ?_
  · go_simp
  simp only [Act.put, List.setIfInBounds_toArray, List.set_cons_zero, List.set_cons_succ]
  refine F_put (i := 14) 186 (v := .int .i64 (L.ct : Int)) rfl rfl (by kernel_rfl) (by kernel_rfl) (by kernel_rfl) (by kernel_rfl) (by kernel_rfl) (fun _ _ _ h => h) (Or.inl ⟨by rfl, fun w' hw' => ?_⟩) hS ?_
  · have c : w'.cell? ⟨q, 2, none⟩ = some (.int .i64 (L.ct : Int)) := cellOf hw'.2 2; go_simp
  simp only [Act.put, List.setIfInBounds_toArray, List.set_cons_zero, List.set_cons_succ]
  refine F_put (i := 15) 187 (v := Ptr pp) rfl rfl (by kernel_rfl) (by kernel_rfl) (by kernel_rfl) (by kernel_rfl) (by kernel_rfl) (fun _ _ _ h => h) (Or.inl ⟨by rfl, fun w' hw' => ?_⟩) hS ?_
  · go_simp
  simp only [Act.put, List.setIfInBounds_toArray, List.set_cons_zero, List.set_cons_succ]
  refine F_put (i := 16) 188 (v := Ptr pp) rfl rfl (by kernel_rfl) (by kernel_rfl) (by kernel_rfl) (by kernel_rfl) (by kernel_rfl) (fun _ _ _ h => h) (Or.inl ⟨by rfl, fun w' hw' => ?_⟩) hS ?_
  · go_simp
  simp only [Act.put, List.setIfInBounds_toArray, List.set_cons_zero, List.set_cons_succ]
  refine F_put (i := 17) 189 (v := .pointer (some ⟨pp, 3, none⟩)) rfl rfl (by kernel_rfl) (by kernel_rfl) (by kernel_rfl) (by kernel_rfl) (by kernel_rfl) (fun _ _ _ h => h) (Or.inl ⟨by rfl, fun w' hw' => ?_⟩) hS ?_
  · go_simp
  simp only [Act.put, List.setIfInBounds_toArray, List.set_cons_zero, List.set_cons_succ]
  refine F_put (i := 18) 190 (v := Ptr q) rfl rfl (by kernel_rfl) (by kernel_rfl) (by kernel_rfl) (by kernel_rfl) (by kernel_rfl) (fun _ _ _ h => h) (Or.inl ⟨by rfl, fun w' hw' => ?_⟩) hS ?_
  · have c : w'.cell? ⟨pp, 3, none⟩ = some (Ptr q) := cellOf hw'.1 3; go_simp
  simp only [Act.put, List.setIfInBounds_toArray, List.set_cons_zero, List.set_cons_succ]
  refine F_put (i := 19) 191 (v := Ptr q) rfl rfl (by kernel_rfl) (by kernel_rfl) (by kernel_rfl) (by kernel_rfl) (by kernel_rfl) (fun _ _ _ h => h) (Or.inl ⟨by rfl, fun w' hw' => ?_⟩) hS ?_
  · go_simp
  simp only [Act.put, List.setIfInBounds_toArray, List.set_cons_zero, List.set_cons_succ]
  refine F_put (i := 20) 192 (v := .pointer (some ⟨q, 3, none⟩)) rfl rfl (by kernel_rfl) (by kernel_rfl) (by kernel_rfl) (by kernel_rfl) (by kernel_rfl) (fun _ _ _ h => h) (Or.inl ⟨by rfl, fun w' hw' => ?_⟩) hS ?_
  · go_simp
  simp only [Act.put, List.setIfInBounds_toArray, List.set_cons_zero, List.set_cons_succ]
  refine F_put (i := 21) 193 (v := .int .i64 (L.ep : Int)) rfl rfl (by kernel_rfl) (by kernel_rfl) (by kernel_rfl) (by kernel_rfl) (by kernel_rfl) (fun _ _ _ h => h) (Or.inl ⟨by rfl, fun w' hw' => ?_⟩) hS ?_
  · have c : w'.cell? ⟨q, 3, none⟩ = some (.int .i64 (L.ep : Int)) := cellOf hw'.2 3; go_simp
  simp only [Act.put, List.setIfInBounds_toArray, List.set_cons_zero, List.set_cons_succ]
  refine F_call (i := 22) 194 7 #[Ptr pp, .int .i64 (L.fr : Int), .int .i64 (L.ct : Int), (.int .i64 (L.ep : Int))] (by kernel_rfl) rfl rfl (by rfl) (by go_simp) (HO.out _ (Touch.refl _ _).drew _ _ _) ?_
  rintro e w9 ⟨rfl, H9⟩
  clear hmw
  refine ⟨_, rfl, fun h => absurd h (by decide), ?_⟩
  simp only [Act.put, List.setIfInBounds_toArray, List.set_cons_zero, List.set_cons_succ]
  refine F_do (i := 23) (some 4) (by kernel_rfl) rfl rfl rfl (fun K hK => ?_)
  go_simp
  refine hK (.bool true) _ (fun h => absurd h (by decide)) ?_
  clear hK K hS
  simp only [Act.put, List.setIfInBounds_toArray, List.set_cons_zero, List.set_cons_succ]
  refine F_done (by kernel_rfl) ?_ _
  go_wp2_with fail
  go_ret
  refine ⟨rfl, ?_⟩
  rcases H9.out with ⟨hno, _⟩ | ⟨hok, l2, q2, h2⟩
  · exact absurd HOk.out (by assumption)
  · exact ⟨l2, d2, q2, r2, _, _, h2, (Fit.open hok HFl.out.size HFl.out.dok).mono (by omega)⟩
end Go.Proofs.YtllkplanjfnnmaaGreatDoor
