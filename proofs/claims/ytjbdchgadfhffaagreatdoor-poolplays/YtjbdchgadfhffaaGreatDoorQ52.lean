/- Texts put together: FR5f, FR6. -/
import Derived.Test.YtjbdchgadfhffaaGreatDoorQ49
import Derived.Test.YtjbdchgadfhffaaGreatDoorQ50
import Derived.Test.YtjbdchgadfhffaaGreatDoorQ51
import Derived.BigQuiet
import Derived.Test.YtjbdchgadfhffaaGreatDoorQ47
import Derived.Deep.CutBlock
import Derived.Deep.DeepCutAuto
/- Acts of a pair of pools: Put of a page. -/
namespace Go.Proofs.YtjbdchgadfhffaaGreatDoor
open Go.RowKit
set_option maxRecDepth 100000 in
set_option maxHeartbeats 4000000 in
theorem does11_put {w0 w : World} {pp p d q r n : Nat} {s : F.Po} {D : dSt} (h : PwE w0 w [(pp, PB11 d r (Ptr p) (Ptr q))] p d q r s s D D n (11 * n)) (hpp : w0.heap.size ≤ pp) (hnl : F.Nil s) (hs8 : D.size ≤ 8) (hn : n ≤ 30) (no off z : Int) (fa : Option Addr) (fn fc : Nat) (c : UInt8) (ka : Option Addr) (kn kc : Nat) (torn at_ : Int) (cb : List UInt8) (hbl : cb.length = fn) (hfc : fn ≤ fc) (hf9 : fn ≤ 9223372036854775807) (hfz : fa = none → fc = 0) (hA : At w0 fa cb) :
    Calls Tryz.prog 8 #[Ptr pp, .agg (act11 0 no off z fa fn fc c ka kn kc torn at_)] w (PDo11 w0 pp (n + 1)) := by
  obtain ⟨ab, hab⟩ : ∃ ab, ab = w.heap.size := ⟨_, rfl⟩
  obtain ⟨wd, hwd⟩ : ∃ wd, wd = w.alloc (AB11 0 no off z fa fn fc c ka kn kc torn at_) := ⟨_, rfl⟩
  have HP := hid (show PwE w0 wd [(ab, AB11 0 no off z fa fn fc c ka kn kc torn at_), (pp, PB11 d r (Ptr p) (Ptr q))] p d q r s s D D n (11 * n) by rw [hwd, hab]; exact h.more ((Touch.refl _ w).alloc _) w.heap.size _ (heap_alloc_new w _) (Nat.le_refl _))
  have HPP := hid hpp
  have HN := hid (And.intro hnl (And.intro hs8 hn))
  have HG := hid h.facts
  have HPx := hid (HP.out.other (pp, PB11 d r (Ptr p) (Ptr q)) (List.mem_cons_of_mem _ List.mem_cons_self))
  have HAx := hid (HP.out.other (ab, AB11 0 no off z fa fn fc c ka kn kc torn at_) List.mem_cons_self)
  have hl9 : s.L.length ≤ 10000 := by have := HG.out.1.len; have := HG.out.2.1.mo2; omega
  have e0 : (w.alloc (AB11 0 no off z fa fn fc c ka kn kc torn at_)).cell? ⟨w.heap.size, 0, none⟩ = some (.int .i64 0) := cellOf (heap_alloc_new w _) 0
  obtain ⟨bs, hbs⟩ : ∃ bs, bs = M.pbytes ⟨no64 no off, 1, [cb.take 200]⟩ := ⟨_, rfl⟩
  have HPg := hid (show Calls Tryz.prog 22 #[.agg (act11C 0 no off z fa fn fc c ka kn kc torn at_).toArray] wd (PPl wd bs) by rw [hbs]; exact page11_any 0 no off z fa fn fc cb hbl hfc hf9 c ka kn kc torn at_ wd (hA.adds HP.out.base) hfz)
  obtain ⟨zz, hzz⟩ : ∃ zz : Int, zz = (F.putE s no bs : Int) := ⟨_, rfl⟩
  have HZZ := hid hzz
  have hrr : Hid (wd.rangeAt ab 0 (act11C 0 no off z fa fn fc c ka kn kc torn at_)) := fun j v hv => by
    rw [cellOf HAx.out, ← hv]
    simp [act11C]
  have hi9 : Hid ((Tryz.prog.info? 42).map (·.size) = some (act11C 0 no off z fa fn fc c ka kn kc torn at_).length) := infoAct11
  clear hbs hzz
  clear h hpp hnl hs8 hn hl9 hbl hfc hf9 hfz hA
  go_enter Tryz.func8, Tryz.ntmps8
  go_upto_region 3 with fail
  rw [← hab, ← hwd]
  clear hab hwd e0
  go_upto_region 4 with (first
    | (refine wpList_load_mid rfl 42 _ rfl ab 0 rfl (act11C 0 no off z fa fn fc c ka kn kc torn at_) _ hrr.out Tryz.underlying42 rfl hi9.out ?_)
    | (go_at_call 22; refine HPg.out.mono ?_; rintro e w1 ⟨a1, k1, rfl, H1⟩))
  obtain ⟨g, k1', ea, hgl, _⟩ := Own.some H1.out.1 (by decide)
  cases ea
  obtain ⟨cu, hcu⟩ := own_type H1.out.1 rfl
  have HY := hid (show PwE w0 w1 ((g, (.cells cu 5 (0, 0) : Obj)) :: [(ab, AB11 0 no off z fa fn fc c ka kn kc torn at_), (pp, PB11 d r (Ptr p) (Ptr q))]) p d q r s s D D n (11 * n) from HP.out.more H1.out.2.2.2.2 g _ hcu (row_low H1.out.1 rfl).1)
  have HGl := hid (show wd.heap.size ≤ g from (row_low H1.out.1 rfl).1)
  have HFz := hid (fun j => H1.out.1.frozenAt j)
  have HB := hid (And.intro H1.out.2.1 (And.intro H1.out.2.2.1 H1.out.2.2.2.1))
  have HAt := hid (fun (w2 : World) (hw : w2.heap[g]? = some (.cells cu 5 (0, 0) : Obj)) => show At w2 (some ⟨g, 0, none⟩) bs from HB.out.1.block (fun b o e _ => by cases e; rw [hw]; exact (HY.out.other _ List.mem_cons_self).symm))
  have HC1 := hid (show Calls Tryz.prog 12 #[Ptr p, .int .i64 no, .slice (some ⟨g, 0, none⟩) 256 k1] w1.drew (PPw w0 ((g, (.cells cu 5 (0, 0) : Obj)) :: [(ab, AB11 0 no off z fa fn fc c ka kn kc torn at_), (pp, PB11 d r (Ptr p) (Ptr q))]) p d q r (F.putS s no bs) s D D (n + 1) (11 * n) (.int .i64 zz)) by rw [HZZ.out]; exact pw_put (HY.out.adds (Touch.refl _ w1).drew) (by have := HN.out.2.2; omega) no _ bs 256 k1 HB.out.2.2 HB.out.2.1 (HB.out.1.adds (Touch.refl _ w1).drew))
  have HC2 := hid (fun (w2 : World) (h2 : PwE w0 w2 ((g, (.cells cu 5 (0, 0) : Obj)) :: [(ab, AB11 0 no off z fa fn fc c ka kn kc torn at_), (pp, PB11 d r (Ptr p) (Ptr q))]) p d q r (F.putS s no bs) s D D (n + 1) (11 * n)) => show Calls Tryz.prog 23 #[Ptr q, .int .i64 no, .slice (some ⟨g, 0, none⟩) 256 k1] w2 (PPw w0 ((g, (.cells cu 5 (0, 0) : Obj)) :: [(ab, AB11 0 no off z fa fn fc c ka kn kc torn at_), (pp, PB11 d r (Ptr p) (Ptr q))]) p d q r (F.putS s no bs) (F.putS s no bs) D D (n + 1) (11 * n) (.int .i64 zz)) by rw [HZZ.out]; exact pq_put h2 HG.out.1 HG.out.2.1.mo2 HN.out.1 no _ bs 256 k1 HB.out.2.2 HB.out.2.1 (HAt.out w2 (h2.other _ List.mem_cons_self)))
  clear hcu hgl
  refine H_begin (S := fun w' : World => w'.heap[pp]? = some (PB11 d r (Ptr p) (Ptr q)) ∧ w'.heap[ab]? = some (AB11 0 no off z fa fn fc c ka kn kc torn at_)) (by kernel_rfl) ?_
  have hS : (fun w' : World => w'.heap[pp]? = some (PB11 d r (Ptr p) (Ptr q)) ∧ w'.heap[ab]? = some (AB11 0 no off z fa fn fc c ka kn kc torn at_)) w1.drew := ⟨HY.out.other (pp, PB11 d r (Ptr p) (Ptr q)) (List.mem_cons_of_mem _ (List.mem_cons_of_mem _ List.mem_cons_self)), HY.out.other (ab, AB11 0 no off z fa fn fc c ka kn kc torn at_) (List.mem_cons_of_mem _ List.mem_cons_self)⟩
  refine H_put (i := 0) 25 (v := Ptr pp) rfl rfl (by kernel_rfl) (by kernel_rfl) (by kernel_rfl) (fun _ _ _ h => h) (Or.inl ⟨by rfl, fun w' hw' => ?_⟩) hS ?_
  · go_simp
  simp only [Act.put, List.setIfInBounds_toArray, List.set_cons_zero, List.set_cons_succ]
  refine H_put (i := 1) 26 (v := Ptr pp) rfl rfl (by kernel_rfl) (by kernel_rfl) (by kernel_rfl) (fun _ _ _ h => h) (Or.inl ⟨by rfl, fun w' hw' => ?_⟩) hS ?_
  · go_simp
  simp only [Act.put, List.setIfInBounds_toArray, List.set_cons_zero, List.set_cons_succ]
  refine H_put (i := 2) 27 (v := .pointer (some ⟨pp, 2, none⟩)) rfl rfl (by kernel_rfl) (by kernel_rfl) (by kernel_rfl) (fun _ _ _ h => h) (Or.inl ⟨by rfl, fun w' hw' => ?_⟩) hS ?_
  · go_simp
  simp only [Act.put, List.setIfInBounds_toArray, List.set_cons_zero, List.set_cons_succ]
  refine H_put (i := 3) 28 (v := Ptr p) rfl rfl (by kernel_rfl) (by kernel_rfl) (by kernel_rfl) (fun _ _ _ h => h) (Or.inl ⟨by rfl, fun w' hw' => ?_⟩) hS ?_
  · have c : w'.cell? ⟨pp, 2, none⟩ = some (Ptr p) := cellOf hw'.1 2; go_simp
  simp only [Act.put, List.setIfInBounds_toArray, List.set_cons_zero, List.set_cons_succ]
  refine H_put (i := 4) 29 (v := .pointer (some ⟨ab, 1, none⟩)) rfl rfl (by kernel_rfl) (by kernel_rfl) (by kernel_rfl) (fun _ _ _ h => h) (Or.inl ⟨by rfl, fun w' hw' => ?_⟩) hS ?_
  · go_simp
  simp only [Act.put, List.setIfInBounds_toArray, List.set_cons_zero, List.set_cons_succ]
  refine H_put (i := 5) 30 (v := .int .i64 no) rfl rfl (by kernel_rfl) (by kernel_rfl) (by kernel_rfl) (fun _ _ _ h => h) (Or.inl ⟨by rfl, fun w' hw' => ?_⟩) hS ?_
  · have c : w'.cell? ⟨ab, 1, none⟩ = some (.int .i64 no) := cellOf hw'.2 1; go_simp
  simp only [Act.put, List.setIfInBounds_toArray, List.set_cons_zero, List.set_cons_succ]
  refine H_put (i := 6) 31 (v := .slice (some ⟨g, 0, none⟩) 256 k1) rfl rfl (by kernel_rfl) (by kernel_rfl) (by kernel_rfl) (fun _ _ _ h => h) (Or.inl ⟨by rfl, fun w' hw' => ?_⟩) hS ?_
  · go_simp
  simp only [Act.put, List.setIfInBounds_toArray, List.set_cons_zero, List.set_cons_succ]
  refine H_call (i := 7) 32 12 #[Ptr p, .int .i64 no, .slice (some ⟨g, 0, none⟩) 256 k1] (by kernel_rfl) rfl rfl (by rfl) (by go_simp) (HC1.out) ?_
  rintro e w2 ⟨rfl, H2⟩
  have hS2 : (fun w' : World => w'.heap[pp]? = some (PB11 d r (Ptr p) (Ptr q)) ∧ w'.heap[ab]? = some (AB11 0 no off z fa fn fc c ka kn kc torn at_)) _ := ⟨H2.out.other (pp, PB11 d r (Ptr p) (Ptr q)) (List.mem_cons_of_mem _ (List.mem_cons_of_mem _ List.mem_cons_self)), H2.out.other (ab, AB11 0 no off z fa fn fc c ka kn kc torn at_) (List.mem_cons_of_mem _ List.mem_cons_self)⟩
  refine ⟨_, _, rfl, hS2, fun w' h => h, ?_⟩
  clear hS; have hS := hS2; clear hS2
  simp only [Act.put, List.setIfInBounds_toArray, List.set_cons_zero, List.set_cons_succ]
  refine H_put (i := 8) 6 (v := .int .i64 zz) rfl rfl (by kernel_rfl) (by kernel_rfl) (by kernel_rfl) (fun _ _ _ h => h) (Or.inl ⟨by rfl, fun w' hw' => ?_⟩) hS ?_
  · go_simp
  simp only [Act.put, List.setIfInBounds_toArray, List.set_cons_zero, List.set_cons_succ]
  refine wpAnyH_done (by kernel_rfl) ?_ _
  clear hS
  go_upto_region 5 with fail
  refine H_begin (S := fun w' : World => w'.heap[pp]? = some (PB11 d r (Ptr p) (Ptr q)) ∧ w'.heap[ab]? = some (AB11 0 no off z fa fn fc c ka kn kc torn at_)) (by kernel_rfl) ?_
  have hS : (fun w' : World => w'.heap[pp]? = some (PB11 d r (Ptr p) (Ptr q)) ∧ w'.heap[ab]? = some (AB11 0 no off z fa fn fc c ka kn kc torn at_)) w2.drew := ⟨H2.out.other (pp, PB11 d r (Ptr p) (Ptr q)) (List.mem_cons_of_mem _ (List.mem_cons_of_mem _ List.mem_cons_self)), H2.out.other (ab, AB11 0 no off z fa fn fc c ka kn kc torn at_) (List.mem_cons_of_mem _ List.mem_cons_self)⟩
  refine H_put (i := 0) 33 (v := Ptr pp) rfl rfl (by kernel_rfl) (by kernel_rfl) (by kernel_rfl) (fun _ _ _ h => h) (Or.inl ⟨by rfl, fun w' hw' => ?_⟩) hS ?_
  · go_simp
  simp only [Act.put, List.setIfInBounds_toArray, List.set_cons_zero, List.set_cons_succ]
  refine H_put (i := 1) 34 (v := Ptr pp) rfl rfl (by kernel_rfl) (by kernel_rfl) (by kernel_rfl) (fun _ _ _ h => h) (Or.inl ⟨by rfl, fun w' hw' => ?_⟩) hS ?_
  · go_simp
  simp only [Act.put, List.setIfInBounds_toArray, List.set_cons_zero, List.set_cons_succ]
  refine H_put (i := 2) 35 (v := .pointer (some ⟨pp, 3, none⟩)) rfl rfl (by kernel_rfl) (by kernel_rfl) (by kernel_rfl) (fun _ _ _ h => h) (Or.inl ⟨by rfl, fun w' hw' => ?_⟩) hS ?_
  · go_simp
  simp only [Act.put, List.setIfInBounds_toArray, List.set_cons_zero, List.set_cons_succ]
  refine H_put (i := 3) 36 (v := Ptr q) rfl rfl (by kernel_rfl) (by kernel_rfl) (by kernel_rfl) (fun _ _ _ h => h) (Or.inl ⟨by rfl, fun w' hw' => ?_⟩) hS ?_
  · have c : w'.cell? ⟨pp, 3, none⟩ = some (Ptr q) := cellOf hw'.1 3; go_simp
  simp only [Act.put, List.setIfInBounds_toArray, List.set_cons_zero, List.set_cons_succ]
  refine H_put (i := 4) 37 (v := .pointer (some ⟨ab, 1, none⟩)) rfl rfl (by kernel_rfl) (by kernel_rfl) (by kernel_rfl) (fun _ _ _ h => h) (Or.inl ⟨by rfl, fun w' hw' => ?_⟩) hS ?_
  · go_simp
  simp only [Act.put, List.setIfInBounds_toArray, List.set_cons_zero, List.set_cons_succ]
  refine H_put (i := 5) 38 (v := .int .i64 no) rfl rfl (by kernel_rfl) (by kernel_rfl) (by kernel_rfl) (fun _ _ _ h => h) (Or.inl ⟨by rfl, fun w' hw' => ?_⟩) hS ?_
  · have c : w'.cell? ⟨ab, 1, none⟩ = some (.int .i64 no) := cellOf hw'.2 1; go_simp
  simp only [Act.put, List.setIfInBounds_toArray, List.set_cons_zero, List.set_cons_succ]
  refine H_put (i := 6) 39 (v := .slice (some ⟨g, 0, none⟩) 256 k1) rfl rfl (by kernel_rfl) (by kernel_rfl) (by kernel_rfl) (fun _ _ _ h => h) (Or.inl ⟨by rfl, fun w' hw' => ?_⟩) hS ?_
  · go_simp
  simp only [Act.put, List.setIfInBounds_toArray, List.set_cons_zero, List.set_cons_succ]
  refine H_call (i := 7) 40 23 #[Ptr q, .int .i64 no, .slice (some ⟨g, 0, none⟩) 256 k1] (by kernel_rfl) rfl rfl (by rfl) (by go_simp) (HC2.out w2.drew (H2.out.adds (Touch.refl _ w2).drew)) ?_
  rintro e w3 ⟨rfl, H3⟩
  have hS2 : (fun w' : World => w'.heap[pp]? = some (PB11 d r (Ptr p) (Ptr q)) ∧ w'.heap[ab]? = some (AB11 0 no off z fa fn fc c ka kn kc torn at_)) _ := ⟨H3.out.other (pp, PB11 d r (Ptr p) (Ptr q)) (List.mem_cons_of_mem _ (List.mem_cons_of_mem _ List.mem_cons_self)), H3.out.other (ab, AB11 0 no off z fa fn fc c ka kn kc torn at_) (List.mem_cons_of_mem _ List.mem_cons_self)⟩
  refine ⟨_, _, rfl, hS2, fun w' h => h, ?_⟩
  clear hS; have hS := hS2; clear hS2
  simp only [Act.put, List.setIfInBounds_toArray, List.set_cons_zero, List.set_cons_succ]
  refine H_put (i := 8) 7 (v := .int .i64 zz) rfl rfl (by kernel_rfl) (by kernel_rfl) (by kernel_rfl) (fun _ _ _ h => h) (Or.inl ⟨by rfl, fun w' hw' => ?_⟩) hS ?_
  · go_simp
  simp only [Act.put, List.setIfInBounds_toArray, List.set_cons_zero, List.set_cons_succ]
  refine wpAnyH_done (by kernel_rfl) ?_ _
  clear hS
  have HSame := hid (show w3.heap[g]? = w1.heap[g]? by rw [HY.out.other _ List.mem_cons_self, H3.out.other _ List.mem_cons_self])
  have HGt := hid (fun j (hj : j < 256) => show ∃ z : Int, w3.cell? ⟨g, j, none⟩ = some (.int .u8 z) ∧ w3.frozen? ⟨g, j, none⟩ = false by
    obtain ⟨b', o', e', hc⟩ := HAt.out w3 (H3.out.other _ List.mem_cons_self) j (bs[j]'(by rw [HB.out.2.2]; exact hj)) (by simp)
    cases e'
    rw [Nat.zero_add] at hc
    exact ⟨_, hc, (World.frozen?_of_block (a := ⟨g, j, none⟩) HSame.out).trans (HFz.out j)⟩)
  have HEnd := hid (fun (wr : World) (hT : TrnB (fun b => b = g) w3 wr) => show PwE w0 wr [(ab, AB11 0 no off z fa fn fc c ka kn kc torn at_), (pp, PB11 d r (Ptr p) (Ptr q))] p d q r (F.putS s no bs) (F.putS s no bs) D D (n + 1) (11 * n) from PwE.bytes (Y := [(g, (.cells cu 5 (0, 0) : Obj))]) H3.out hT (fun b c => by subst c; exact ⟨⟨_, List.mem_singleton_self _, rfl⟩, by have := HGl.out; have := HP.out.base.size; omega⟩) (fun x hx c => by
    have h1 := (Array.getElem?_eq_some_iff.1 (HP.out.other x hx)).1
    have := HGl.out
    omega))
  go_wp2_with fail
  go_loopw [43] (fun i wr => ∃ j : Nat, j ≤ 256 ∧ i = .int .i64 (j : Int) ∧ Hid (TrnB (fun b => b = g) w3 wr)) (fun i _ => 256 - (intOf i).toNat)
  case atStart => exact ⟨0, Nat.zero_le _, rfl, TrnB.refl _ _⟩
  case round =>
    obtain ⟨j, hj, rfl, HI⟩ := hrel
    by_cases hlt : j < 256
    · have hltz : (j : Int) < 256 := by omega
      obtain ⟨z3, hc3, hf3⟩ := HGt.out j hlt
      obtain ⟨z4, q3⟩ := HI.out.2.1 _ _ hc3
      have q4 : wr.frozen? ⟨g, j, none⟩ = false := by rw [HI.out.2.2]; exact hf3
      clear hc3 hf3
      go_wp2_with fail
      go_roundw
      case rel => exact ⟨j + 1, by omega, by go_num, HI.out.set rfl _⟩
      case measure => simp [intOf]; omega
    · obtain rfl : j = 256 := by omega
      have hzz2 : (zz == zz) = true := by simp
      go_wp2_with fail
      go_ret
      exact ⟨rfl, p, d, q, r, _, _, ((HEnd.out wr HI.out).fewer (fun x hx => List.mem_cons_of_mem _ hx)).later (by omega) (by omega), HN.out.1.put no bs, HN.out.2.1⟩
end Go.Proofs.YtjbdchgadfhffaaGreatDoor

/- PoolPlays. -/
namespace Go.Proofs.YtjbdchgadfhffaaGreatDoor
open Go.RowKit
set_option maxRecDepth 100000 in
theorem does11_any {w0 w : World} {pp p d q r n : Nat} {s : F.Po} {D : dSt} (h : PwE w0 w [(pp, PB11 d r (Ptr p) (Ptr q))] p d q r s s D D n (11 * n)) (hpp : w0.heap.size ≤ pp) (hnl : F.Nil s) (hs8 : D.size ≤ 8) (hn : n ≤ 30) (k no off z : Int) (fa : Option Addr) (fn fc : Nat) (c : UInt8) (ka : Option Addr) (kn kc : Nat) (torn at_ : Int) (cb : List UInt8) (hbl : cb.length = fn) (hfc : fn ≤ fc) (hf9 : fn ≤ 9223372036854775807) (hfz : fa = none → fc = 0) (hA : At w0 fa cb) (hz64 : z ≤ 9223372036854775807) (ks : List Bool) (hks : KeptAt w0 ka ks) (hkn : ks.length = kn) (hk64 : kn ≤ 9223372036854775807) :
    Calls Tryz.prog 8 #[Ptr pp, .agg (act11 k no off z fa fn fc c ka kn kc torn at_)] w (PDo11 w0 pp (n + 1)) := by
  by_cases hk : k < 0 ∨ 7 < k
  · exact does11_other h hpp hnl hs8 hn no off z fa fn fc c ka kn kc torn at_ k hk cb hbl hfc hA
  · have h8 : k = 0 ∨ k = 1 ∨ k = 2 ∨ k = 3 ∨ k = 4 ∨ k = 5 ∨ k = 6 ∨ k = 7 := by omega
    rcases h8 with rfl | rfl | rfl | rfl | rfl | rfl | rfl | rfl
    · exact does11_put h hpp hnl hs8 hn no off z fa fn fc c ka kn kc torn at_ cb hbl hfc hf9 hfz hA
    · exact does11_get h hpp hnl hs8 hn no off z fa fn fc c ka kn kc torn at_
    · exact does11_accept h hpp hnl hs8 hn no off z fa fn fc c ka kn kc torn at_
    · exact does11_drop h hpp hnl hs8 hn no off z fa fn fc c ka kn kc torn at_
    · exact does11_flush h hpp hnl hs8 hn no off z fa fn fc c ka kn kc torn at_
    · exact does11_cut h hpp hnl hs8 hn no off z fa fn fc c ka kn kc torn at_ hz64
    · by_cases ht : (0 ≤ torn ∧ torn < (D.W.length : Int)) ∧ (at_ < 0 ∨ 256 < at_)
      · exact does11_lose_bad h hpp hnl hs8 hn no off z fa fn fc c ka kn kc torn at_ ht.1 ht.2
      · exact does11_lose_ok h hpp hnl hs8 hn no off z fa fn fc c ka kn kc torn at_ ks hks hkn hk64 (fun c => by omega)
    · exact does11_spoil h hpp hnl hs8 hn no off z fa fn fc c ka kn kc torn at_
set_option maxRecDepth 100000 in
theorem build_pair11 (d r : Nat) (w : World) : (Instr.build 35 #[(0, Ptr d), (1, Ptr r)]).run Tryz.prog w = .ok (.agg #[Ptr d, Ptr r, .pointer none, .pointer none]) w := by kernel_rfl
set_option maxRecDepth 100000 in
theorem ne_pool_none (w : World) : (binOp .neq 32 (.pointer none) (.pointer none)).run Tryz.prog w = .ok (.bool false) w := by kernel_rfl
set_option maxRecDepth 100000 in
theorem ne_pool_some (l : Nat) (w : World) : (binOp .neq 32 (Ptr l) (.pointer none)).run Tryz.prog w = .ok (.bool true) w := by kernel_rfl
set_option maxRecDepth 100000 in
set_option maxHeartbeats 2000000 in
theorem plays11_no (n fr ct mo : Int) (a : Option Addr) (len cap : Nat) (w : World) (hT : Tab w) (h : n < 1 ∨ 8 < n) : Calls Tryz.prog 3 #[.int .i64 n, .int .i64 fr, .int .i64 ct, .int .i64 mo, .slice a len cap] w (Adding (.bool true) w) := by
  have HW := hid (fun w' (hA : Adds w w') => works11 w' (hT.adds hA))
  by_cases hb : n < 1 ∨ 4096 < n
  · have HN := hid (new_no n w hb)
    have HR := hid (rnew_no n w hb)
    clear hT h hb
    go_enter Tryz.func3, Tryz.ntmps3
    go_wp2_with (first
      | (go_at_call 4; refine HN.out.mono ?_; rintro e _ ⟨rfl, hw⟩; rw [hw]; clear hw)
      | (go_at_call 5; refine HR.out.mono ?_; rintro e _ ⟨rfl, hw⟩; rw [hw]; clear hw)
      | (go_at_call 6; refine (HW.out w (Touch.refl _ w)).mono ?_; rintro e w3 ⟨rfl, hA3⟩; have HA3 := hid hA3; clear hA3))
    go_ret
    exact ⟨rfl, HA3.out⟩
  · have HN := hid (new_yes n w w.heap.size (Nat.le_refl _) (by omega) (by omega))
    have HR := hid (fun w1 => rnew_yes n w1 w1.heap.size (Nat.le_refl _) (by omega) (by omega))
    have h10 : decide ((8 : Int) < n) = true := by simp; omega
    clear hT h hb
    go_enter Tryz.func3, Tryz.ntmps3
    go_wp2_with (first
      | (go_at_call 4; refine HN.out.mono ?_; rintro e w1 ⟨p, hb, rfl, _, _, _, hA1⟩; have HA1 := hid hA1; clear hA1)
      | (go_at_call 5; refine (HR.out w1).mono ?_; rintro e w2 ⟨r, hv, rfl, _, _, hA2⟩; have HA2 := hid (HA1.out.trans hA2); clear hA2)
      | (go_at_call 6; refine (HW.out w2 HA2.out).mono ?_; rintro e w3 ⟨rfl, hA3⟩; have HA3 := hid (HA2.out.trans hA3); clear hA3))
    go_ret
    exact ⟨rfl, HA3.out⟩
/-- Where the law is, behind k acts: a pair that is alike, or none was opened. -/
def Lp11 (w wr : World) (pp d r k : Nat) : Prop := (∃ p d q r s D, PwE w wr [(pp, PB11 d r (Ptr p) (Ptr q))] p d q r s s D D k (11 * k) ∧ F.Nil s ∧ D.size ≤ 8) ∨ (wr.heap[pp]? = some (PB11 d r (.pointer none) (.pointer none)) ∧ Adds w wr)
set_option maxRecDepth 100000 in
theorem Lp11.base {w wr : World} {pp d r k : Nat} (h : Lp11 w wr pp d r k) : Adds w wr := by
  rcases h with ⟨p, d, q, r, s, D, h, _⟩ | ⟨_, h⟩
  · exact h.base
  · exact h
set_option maxRecDepth 100000 in
theorem Lp11.next {w wr : World} {pp d r k : Nat} (h : Lp11 w wr pp d r k) : Lp11 w wr pp d r (k + 1) := by
  rcases h with ⟨p, d, q, r, s, D, h, h2⟩ | h
  · exact .inl ⟨p, d, q, r, s, D, h.later (by omega) (by omega), h2⟩
  · exact .inr h
set_option maxRecDepth 100000 in
set_option maxHeartbeats 4000000 in
theorem plays11_yes (n fr ct mo : Int) (a : Option Addr) (len cap : Nat) (w : World) (hT : Tab w) (hI : Acts11 w a len) (h : 1 ≤ n ∧ n ≤ 8) (hfr : fr ≤ 9223372036854775807) : Calls Tryz.prog 3 #[.int .i64 n, .int .i64 fr, .int .i64 ct, .int .i64 mo, .slice a len cap] w (Adding (.bool true) w) := by
  have HW := hid (fun w' (hA : Adds w w') => works11 w' (hT.adds hA))
  have HN := hid (new_yes n w w.heap.size (Nat.le_refl _) (by omega) (by omega))
  have HR := hid (fun w1 => rnew_yes n w1 w1.heap.size (Nat.le_refl _) (by omega) (by omega))
  have h10 : decide ((8 : Int) < n) = false := by simp; omega
  have HI := hid hI
  have HT := hid hT
  have HFr := hid hfr
  have HN10 := hid h
  have hbp := build_pair11
  have hlen := hI.1
  clear hT hI h hfr
  go_enter Tryz.func3, Tryz.ntmps3
  go_upto_region 6 with (first
    | (go_at_call 4; refine HN.out.mono ?_; rintro e w1 ⟨d, hb, rfl, hp, hhb, hd, hA1⟩; have H1 := hid (And.intro hp (And.intro hhb (And.intro hd hA1))); clear hp hhb hd hA1)
    | (go_at_call 5; refine (HR.out w1).mono ?_; rintro e w2 hR2
       obtain ⟨r, he, H2⟩ := ref_lost (show PRLose w1 w1.heap.size (dSt.new n) e w2 from hR2)
       subst he
       clear hR2))
  obtain ⟨pp, hpp⟩ : ∃ pp, pp = w2.heap.size := ⟨_, rfl⟩
  obtain ⟨w3, hw3⟩ : ∃ w3, w3 = w2.alloc (PB11 d r (.pointer none) (.pointer none)) := ⟨_, rfl⟩
  have HPd := hid (show PdE11 w w3 [(pp, PB11 d r (.pointer none) (.pointer none))] d r (dSt.new n) (dSt.new n) by rw [hw3, hpp]; exact pd_new11 H1.out.1 H1.out.2.1 H1.out.2.2.1 H1.out.2.2.2 H2.out _)
  have HPP := hid (show w.heap.size ≤ pp by rw [hpp]; obtain ⟨_, _, _, hA⟩ := H2.out; have := H1.out.2.2.2.size; have := hA.size; omega)
  rw [← hpp, ← hw3]
  clear hpp hw3
  have HO := hid (p11_open HPd.out HPP.out (fun x hx => (by cases hx)) (dnew_ok11 n 0 (by have := HN10.out; omega)) (show (dSt.new n).size ≤ 4096 by have := HN10.out.2; show n ≤ 4096; omega) HT.out fr ct mo HFr.out)
  have HSt := hid (show ∀ w4, (F.openOk (dSt.new n) fr ct mo = false ∧ Adds w3 w4) ∨ (F.openOk (dSt.new n) fr ct mo = true ∧ ∃ p q, PwE w w4 [(pp, PB11 d r (Ptr p) (Ptr q))] p d q r ⟨fr, ct, mo, []⟩ ⟨fr, ct, mo, []⟩ (dSt.new n) (dSt.new n) 0 0) → Lp11 w w4 pp d r 0 from fun w4 c => by
    rcases c with ⟨_, hA⟩ | ⟨hok, p, q, h⟩
    · obtain ⟨OD, OR, h⟩ := HPd.out
      exact .inr ⟨hA.at' (h.oth _ List.mem_cons_self).1 id, h.base.trans hA⟩
    · exact .inl ⟨p, d, q, r, _, _, h, fun f hf => (by cases hf), HN10.out.2⟩)
  have hns := ne_pool_some
  have hnn := ne_pool_none
  clear HPd H1 H2 HN HR
  go_wp2_with (first | (go_at_call 7; refine HO.out.mono ?_; rintro e w4 ⟨rfl, H4⟩; have HL4 := hid (HSt.out w4 H4.out); clear H4))
  go_loopw [16] (fun i wr => ∃ k : Nat, k ≤ 30 ∧ i = .int .i64 (k : Int) ∧ Hid (Lp11 w wr pp d r k)) (fun i _ => 30 - (intOf i).toNat)
  case atStart => exact ⟨0, Nat.zero_le _, rfl, HL4.out⟩
  case round =>
    obtain ⟨k, hk, rfl, HR⟩ := hrel
    have HAw := hid HR.out.base
    by_cases hlt : k < len ∧ k < 30
    · have d1 : decide (k < len) = true := by simpa using hlt.1
      have d2 : decide ((k : Int) < 30) = true := by simp; omega
      have d3 : decide (k < 30) = true := by simpa using hlt.2
      have d4 : decide ((k : Int) < (len : Int)) = true := by simp; omega
      rcases HR.out with ⟨l, d2, q, r2, s, D, hP, hNl, hS8⟩ | ⟨hb, _⟩
      · have c2 : wr.cell? ⟨pp, 2, none⟩ = some (Ptr l) := cellOf (hP.other _ List.mem_cons_self) 2
        obtain ⟨b, o, k0, no, off, n0, fa, fc, cb, c, ja, jc, js, jt, ja2, rfl, hra, hfx, hka, hks, hn64, _⟩ := HI.out.2 k hlt.1
        obtain ⟨fn, hfn⟩ : ∃ fn, fn = cb.length := ⟨_, rfl⟩
        rw [← hfn] at hra hfx
        have hrr : Hid (wr.rangeAt b (o + k * 9) (act11C k0 no off n0 fa fn fc c ja (List.length js) jc jt ja2)) := fun j v hv => below_adds HAw.out (hra j v hv)
        have hi9 : Hid ((Tryz.prog.info? 42).map (·.size) = some (act11C k0 no off n0 fa fn fc c ja (List.length js) jc jt ja2).length) := infoAct11
        have HDo := hid (show Calls Tryz.prog 8 #[Ptr pp, .agg (act11C k0 no off n0 fa fn fc c ja (List.length js) jc jt ja2).toArray] wr (PDo11 w pp (k + 1)) from does11_any hP HPP.out hNl hS8 (by omega) k0 no off n0 fa fn fc c ja (List.length js) jc jt ja2 cb hfn.symm hfx.2.1 hfx.2.2.1 hfx.2.2.2 hfx.1 hn64 js hka rfl hks)
        have c4 : wr.cell? ⟨b, o + k * 9 + 4, none⟩ = some (.slice fa fn fc) := hrr.out 4 _ rfl
        have hlt1 := hlt.1
        have hlt2 := hlt.2
        clear hP hNl hS8 hra hka hks hn64 hlt HSt HO hfx hfn
        by_cases h4 : 400 < fn
        · have h4' : (400 : Int) < (fn : Int) := by omega
          go_wp2_with fail
          go_roundw
          case rel => exact ⟨k + 1, by omega, by go_num, HR.out.next⟩
          case measure => simp [intOf]; omega
        · have h4' : ¬ (400 : Int) < (fn : Int) := by omega
          go_wp2_with (first
            | (refine wpList_load_mid rfl 42 _ rfl b (o + k * 9) rfl (act11C k0 no off n0 fa fn fc c ja (List.length js) jc jt ja2) _ hrr.out Tryz.underlying42 rfl hi9.out ?_)
            | (go_at_call 8; refine HDo.out.mono ?_; rintro e w5 ⟨rfl, H5⟩; obtain ⟨l5, d5, q5, r5, s5, D5, h5, n5, f5⟩ := H5.out; have HP5 := hid (And.intro h5 (And.intro n5 f5)); clear h5 n5 f5 H5)
            | (go_at_call 9; refine (p11_alike HP5.out.1 List.mem_cons_self (by omega) (by have := HP5.out.2.2; omega)).mono ?_; rintro e w6 ⟨rfl, H6⟩))
          go_roundw
          case rel => exact ⟨k + 1, by omega, by go_num, .inl ⟨l5, d5, q5, r5, s5, D5, H6.out, HP5.out.2⟩⟩
          case measure => simp [intOf]; omega
      · have c2 : wr.cell? ⟨pp, 2, none⟩ = some (.pointer none) := cellOf hb 2
        clear HSt HO
        go_wp2_with (first | (go_at_call 6; refine (HW.out wr HAw.out).mono ?_; rintro e w8 ⟨rfl, hA8⟩; have HA8 := hid (HAw.out.trans hA8); clear hA8))
        go_ret
        exact ⟨rfl, HA8.out⟩
    · by_cases hl : k < len
      · have d1 : decide (k < len) = true := by simpa using hl
        have d4 : decide ((k : Int) < (len : Int)) = true := by simp; omega
        obtain rfl : k = 30 := by omega
        clear HSt HO
        go_wp2_with (first | (go_at_call 6; refine (HW.out wr HAw.out).mono ?_; rintro e w8 ⟨rfl, hA8⟩; have HA8 := hid (HAw.out.trans hA8); clear hA8))
        go_ret
        exact ⟨rfl, HA8.out⟩
      · have d1 : decide (k < len) = false := by simpa using hl
        have d4 : decide ((k : Int) < (len : Int)) = false := by simp; omega
        clear HSt HO
        go_wp2_with (first | (go_at_call 6; refine (HW.out wr HAw.out).mono ?_; rintro e w8 ⟨rfl, hA8⟩; have HA8 := hid (HAw.out.trans hA8); clear hA8))
        go_ret
        exact ⟨rfl, HA8.out⟩
set_option maxRecDepth 100000 in
theorem plays11 (n fr ct mo : Int) (a : Option Addr) (len cap : Nat) (w : World) (hT : Tab w) (hI : Acts11 w a len) (hfr : fr ≤ 9223372036854775807) : Calls Tryz.prog 3 #[.int .i64 n, .int .i64 fr, .int .i64 ct, .int .i64 mo, .slice a len cap] w (Adding (.bool true) w) := by
  by_cases h : n < 1 ∨ 8 < n
  · exact plays11_no n fr ct mo a len cap w hT h
  · exact plays11_yes n fr ct mo a len cap w hT hI (by omega) hfr
end Go.Proofs.YtjbdchgadfhffaaGreatDoor
