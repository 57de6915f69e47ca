/- Acts of a pair of pools: Put of bytes. -/
import Derived.Test.YtjbdchgadfhffaaGreatDoorQ49
import Derived.BigQuiet
namespace Go.Proofs.YtjbdchgadfhffaaGreatDoor
open Go.RowKit
set_option maxRecDepth 100000 in
set_option maxHeartbeats 4000000 in
theorem does11_other {w0 w : World} {pp p d q r n : Nat} {s : F.Po} {D : dSt} (h : PwE w0 w [(pp, PB11 d r (Ptr p) (Ptr q))] p d q r s s D D n (11 * n)) (hpp : w0.heap.size ≤ pp) (hnl : F.Nil s) (hs8 : D.size ≤ 8) (hn : n ≤ 30) (no off z : Int) (fa : Option Addr) (fn fc : Nat) (c : UInt8) (ka : Option Addr) (kn kc : Nat) (torn at_ : Int) (k : Int) (hk : k < 0 ∨ 7 < k) (bs : List UInt8) (hbl : bs.length = fn) (hfc : fn ≤ fc) (hA : At w0 fa bs) :
    Calls Tryz.prog 8 #[Ptr pp, .agg (act11 k no off z fa fn fc c ka kn kc torn at_)] w (PDo11 w0 pp (n + 1)) := by
  obtain ⟨ab, hab⟩ : ∃ ab, ab = w.heap.size := ⟨_, rfl⟩
  obtain ⟨wd, hwd⟩ : ∃ wd, wd = w.alloc (AB11 k no off z fa fn fc c ka kn kc torn at_) := ⟨_, rfl⟩
  have HP := hid (show PwE w0 wd [(ab, AB11 k no off z fa fn fc c ka kn kc torn at_), (pp, PB11 d r (Ptr p) (Ptr q))] p d q r s s D D n (11 * n) by rw [hwd, hab]; exact h.more ((Touch.refl _ w).alloc _) w.heap.size _ (heap_alloc_new w _) (Nat.le_refl _))
  have HPP := hid hpp
  have HN := hid (And.intro hnl (And.intro hs8 hn))
  have HG := hid h.facts
  have HPx := hid (HP.out.other (pp, PB11 d r (Ptr p) (Ptr q)) (List.mem_cons_of_mem _ List.mem_cons_self))
  have HAx := hid (HP.out.other (ab, AB11 k no off z fa fn fc c ka kn kc torn at_) List.mem_cons_self)
  have hl9 : s.L.length ≤ 10000 := by have := HG.out.1.len; have := HG.out.2.1.mo2; omega
  have e0 : (w.alloc (AB11 k no off z fa fn fc c ka kn kc torn at_)).cell? ⟨w.heap.size, 0, none⟩ = some (.int .i64 k) := cellOf (heap_alloc_new w _) 0
  have q0 : (k == 0) = false := by simp; omega
  have q1 : (k == 1) = false := by simp; omega
  have q2 : (k == 2) = false := by simp; omega
  have q3 : (k == 3) = false := by simp; omega
  have q4 : (k == 4) = false := by simp; omega
  have q5 : (k == 5) = false := by simp; omega
  have q6 : (k == 6) = false := by simp; omega
  have q7 : (k == 7) = false := by simp; omega
  obtain ⟨zz, hzz⟩ : ∃ zz : Int, zz = (F.putE s no bs : Int) := ⟨_, rfl⟩
  have HC1 := hid (show Calls Tryz.prog 12 #[Ptr p, .int .i64 no, .slice fa fn fc] wd.drew (PPw w0 [(ab, AB11 k no off z fa fn fc c ka kn kc torn at_), (pp, PB11 d r (Ptr p) (Ptr q))] p d q r (F.putS s no bs) s D D (n + 1) (11 * n) (.int .i64 zz)) by rw [hzz]; exact pw_put (HP.out.adds (Touch.refl _ wd).drew) (by omega) no fa bs fn fc hbl hfc (hA.adds (HP.out.adds (Touch.refl _ wd).drew).base))
  have HC2 := hid (fun (w2 : World) (h2 : PwE w0 w2 [(ab, AB11 k no off z fa fn fc c ka kn kc torn at_), (pp, PB11 d r (Ptr p) (Ptr q))] p d q r (F.putS s no bs) s D D (n + 1) (11 * n)) => show Calls Tryz.prog 23 #[Ptr q, .int .i64 no, .slice fa fn fc] w2 (PPw w0 [(ab, AB11 k no off z fa fn fc c ka kn kc torn at_), (pp, PB11 d r (Ptr p) (Ptr q))] p d q r (F.putS s no bs) (F.putS s no bs) D D (n + 1) (11 * n) (.int .i64 zz)) by rw [hzz]; exact pq_put h2 HG.out.1 HG.out.2.1.mo2 HN.out.1 no fa bs fn fc hbl hfc (hA.adds h2.base))
  clear hzz
  clear h hpp hnl hs8 hn hl9 hk hbl hfc hA
  go_enter Tryz.func8, Tryz.ntmps8
  go_upto_region 39 with fail
  rw [← hab, ← hwd]
  clear hab hwd e0
  refine H_begin (S := fun w' : World => w'.heap[pp]? = some (PB11 d r (Ptr p) (Ptr q)) ∧ w'.heap[ab]? = some (AB11 k no off z fa fn fc c ka kn kc torn at_)) (by kernel_rfl) ?_
  have hS : (fun w' : World => w'.heap[pp]? = some (PB11 d r (Ptr p) (Ptr q)) ∧ w'.heap[ab]? = some (AB11 k no off z fa fn fc c ka kn kc torn at_)) wd.drew := ⟨HPx.out, HAx.out⟩
  refine H_put (i := 0) 241 (v := Ptr pp) rfl rfl (by kernel_rfl) (by kernel_rfl) (by kernel_rfl) (fun _ _ _ h => h) (Or.inl ⟨by rfl, fun w' hw' => ?_⟩) hS ?_
  · go_simp
  simp only [Act.put, List.setIfInBounds_toArray, List.set_cons_zero, List.set_cons_succ]
  refine H_put (i := 1) 242 (v := Ptr pp) rfl rfl (by kernel_rfl) (by kernel_rfl) (by kernel_rfl) (fun _ _ _ h => h) (Or.inl ⟨by rfl, fun w' hw' => ?_⟩) hS ?_
  · go_simp
  simp only [Act.put, List.setIfInBounds_toArray, List.set_cons_zero, List.set_cons_succ]
  refine H_put (i := 2) 243 (v := .pointer (some ⟨pp, 2, none⟩)) rfl rfl (by kernel_rfl) (by kernel_rfl) (by kernel_rfl) (fun _ _ _ h => h) (Or.inl ⟨by rfl, fun w' hw' => ?_⟩) hS ?_
  · go_simp
  simp only [Act.put, List.setIfInBounds_toArray, List.set_cons_zero, List.set_cons_succ]
  refine H_put (i := 3) 244 (v := Ptr p) rfl rfl (by kernel_rfl) (by kernel_rfl) (by kernel_rfl) (fun _ _ _ h => h) (Or.inl ⟨by rfl, fun w' hw' => ?_⟩) hS ?_
  · have c : w'.cell? ⟨pp, 2, none⟩ = some (Ptr p) := cellOf hw'.1 2; go_simp
  simp only [Act.put, List.setIfInBounds_toArray, List.set_cons_zero, List.set_cons_succ]
  refine H_put (i := 4) 245 (v := .pointer (some ⟨ab, 1, none⟩)) rfl rfl (by kernel_rfl) (by kernel_rfl) (by kernel_rfl) (fun _ _ _ h => h) (Or.inl ⟨by rfl, fun w' hw' => ?_⟩) hS ?_
  · go_simp
  simp only [Act.put, List.setIfInBounds_toArray, List.set_cons_zero, List.set_cons_succ]
  refine H_put (i := 5) 246 (v := .int .i64 no) rfl rfl (by kernel_rfl) (by kernel_rfl) (by kernel_rfl) (fun _ _ _ h => h) (Or.inl ⟨by rfl, fun w' hw' => ?_⟩) hS ?_
  · have c : w'.cell? ⟨ab, 1, none⟩ = some (.int .i64 no) := cellOf hw'.2 1; go_simp
  simp only [Act.put, List.setIfInBounds_toArray, List.set_cons_zero, List.set_cons_succ]
  refine H_put (i := 6) 247 (v := .pointer (some ⟨ab, 4, none⟩)) rfl rfl (by kernel_rfl) (by kernel_rfl) (by kernel_rfl) (fun _ _ _ h => h) (Or.inl ⟨by rfl, fun w' hw' => ?_⟩) hS ?_
  · go_simp
  simp only [Act.put, List.setIfInBounds_toArray, List.set_cons_zero, List.set_cons_succ]
  refine H_put (i := 7) 248 (v := .slice fa fn fc) rfl rfl (by kernel_rfl) (by kernel_rfl) (by kernel_rfl) (fun _ _ _ h => h) (Or.inl ⟨by rfl, fun w' hw' => ?_⟩) hS ?_
  · have c : w'.cell? ⟨ab, 4, none⟩ = some (.slice fa fn fc) := cellOf hw'.2 4; go_simp
  simp only [Act.put, List.setIfInBounds_toArray, List.set_cons_zero, List.set_cons_succ]
  refine H_put (i := 9) 250 (v := Ptr pp) rfl rfl (by kernel_rfl) (by kernel_rfl) (by kernel_rfl) (fun _ _ _ h => h) (Or.inl ⟨by rfl, fun w' hw' => ?_⟩) hS ?_
  · go_simp
  simp only [Act.put, List.setIfInBounds_toArray, List.set_cons_zero, List.set_cons_succ]
  refine H_put (i := 10) 251 (v := Ptr pp) rfl rfl (by kernel_rfl) (by kernel_rfl) (by kernel_rfl) (fun _ _ _ h => h) (Or.inl ⟨by rfl, fun w' hw' => ?_⟩) hS ?_
  · go_simp
  simp only [Act.put, List.setIfInBounds_toArray, List.set_cons_zero, List.set_cons_succ]
  refine H_put (i := 11) 252 (v := .pointer (some ⟨pp, 3, none⟩)) rfl rfl (by kernel_rfl) (by kernel_rfl) (by kernel_rfl) (fun _ _ _ h => h) (Or.inl ⟨by rfl, fun w' hw' => ?_⟩) hS ?_
  · go_simp
  simp only [Act.put, List.setIfInBounds_toArray, List.set_cons_zero, List.set_cons_succ]
  refine H_put (i := 12) 253 (v := Ptr q) rfl rfl (by kernel_rfl) (by kernel_rfl) (by kernel_rfl) (fun _ _ _ h => h) (Or.inl ⟨by rfl, fun w' hw' => ?_⟩) hS ?_
  · have c : w'.cell? ⟨pp, 3, none⟩ = some (Ptr q) := cellOf hw'.1 3; go_simp
  simp only [Act.put, List.setIfInBounds_toArray, List.set_cons_zero, List.set_cons_succ]
  refine H_put (i := 13) 254 (v := .pointer (some ⟨ab, 1, none⟩)) rfl rfl (by kernel_rfl) (by kernel_rfl) (by kernel_rfl) (fun _ _ _ h => h) (Or.inl ⟨by rfl, fun w' hw' => ?_⟩) hS ?_
  · go_simp
  simp only [Act.put, List.setIfInBounds_toArray, List.set_cons_zero, List.set_cons_succ]
  refine H_put (i := 14) 255 (v := .int .i64 no) rfl rfl (by kernel_rfl) (by kernel_rfl) (by kernel_rfl) (fun _ _ _ h => h) (Or.inl ⟨by rfl, fun w' hw' => ?_⟩) hS ?_
  · have c : w'.cell? ⟨ab, 1, none⟩ = some (.int .i64 no) := cellOf hw'.2 1; go_simp
  simp only [Act.put, List.setIfInBounds_toArray, List.set_cons_zero, List.set_cons_succ]
  refine H_put (i := 15) 256 (v := .pointer (some ⟨ab, 4, none⟩)) rfl rfl (by kernel_rfl) (by kernel_rfl) (by kernel_rfl) (fun _ _ _ h => h) (Or.inl ⟨by rfl, fun w' hw' => ?_⟩) hS ?_
  · go_simp
  simp only [Act.put, List.setIfInBounds_toArray, List.set_cons_zero, List.set_cons_succ]
  refine H_put (i := 16) 257 (v := .slice fa fn fc) rfl rfl (by kernel_rfl) (by kernel_rfl) (by kernel_rfl) (fun _ _ _ h => h) (Or.inl ⟨by rfl, fun w' hw' => ?_⟩) hS ?_
  · have c : w'.cell? ⟨ab, 4, none⟩ = some (.slice fa fn fc) := cellOf hw'.2 4; go_simp
  simp only [Act.put, List.setIfInBounds_toArray, List.set_cons_zero, List.set_cons_succ]
  refine H_call (i := 8) 249 12 #[Ptr p, .int .i64 no, .slice fa fn fc] (by kernel_rfl) rfl rfl (by rfl) (by go_simp) (HC1.out) ?_
  rintro e w2 ⟨rfl, H2⟩
  have hS2 : (fun w' : World => w'.heap[pp]? = some (PB11 d r (Ptr p) (Ptr q)) ∧ w'.heap[ab]? = some (AB11 k no off z fa fn fc c ka kn kc torn at_)) _ := ⟨H2.out.other (pp, PB11 d r (Ptr p) (Ptr q)) (List.mem_cons_of_mem _ List.mem_cons_self), H2.out.other (ab, AB11 k no off z fa fn fc c ka kn kc torn at_) List.mem_cons_self⟩
  refine ⟨_, _, rfl, hS2, fun w' h => h, ?_⟩
  clear hS; have hS := hS2; clear hS2
  simp only [Act.put, List.setIfInBounds_toArray, List.set_cons_zero, List.set_cons_succ]
  refine H_call (i := 17) 258 23 #[Ptr q, .int .i64 no, .slice fa fn fc] (by kernel_rfl) rfl rfl (by rfl) (by go_simp) (HC2.out w2 H2.out) ?_
  rintro e w3 ⟨rfl, H3⟩
  have hS2 : (fun w' : World => w'.heap[pp]? = some (PB11 d r (Ptr p) (Ptr q)) ∧ w'.heap[ab]? = some (AB11 k no off z fa fn fc c ka kn kc torn at_)) _ := ⟨H3.out.other (pp, PB11 d r (Ptr p) (Ptr q)) (List.mem_cons_of_mem _ List.mem_cons_self), H3.out.other (ab, AB11 k no off z fa fn fc c ka kn kc torn at_) List.mem_cons_self⟩
  refine ⟨_, _, rfl, hS2, fun w' h => h, ?_⟩
  clear hS; have hS := hS2; clear hS2
  simp only [Act.put, List.setIfInBounds_toArray, List.set_cons_zero, List.set_cons_succ]
  refine H_put (i := 18) 259 (v := .bool true) rfl rfl (by kernel_rfl) (by kernel_rfl) (by kernel_rfl) (fun _ _ _ h => h) (Or.inl ⟨by rfl, fun w' hw' => ?_⟩) hS ?_
  · go_simp
  simp only [Act.put, List.setIfInBounds_toArray, List.set_cons_zero, List.set_cons_succ]
  refine H_put (i := 19) 4 (v := .bool true) rfl rfl (by kernel_rfl) (by kernel_rfl) (by kernel_rfl) (fun _ _ _ h => h) (Or.inl ⟨by rfl, fun w' hw' => ?_⟩) hS ?_
  · go_simp
  simp only [Act.put, List.setIfInBounds_toArray, List.set_cons_zero, List.set_cons_succ]
  refine wpAnyH_done (by kernel_rfl) ?_ _
  clear hS
  go_wp2_with fail
  go_ret
  exact ⟨rfl, p, d, q, r, _, _, (H3.out.fewer (fun x hx => List.mem_cons_of_mem _ hx)).later (by omega) (by omega), HN.out.1.put no bs, HN.out.2.1⟩
end Go.Proofs.YtjbdchgadfhffaaGreatDoor
