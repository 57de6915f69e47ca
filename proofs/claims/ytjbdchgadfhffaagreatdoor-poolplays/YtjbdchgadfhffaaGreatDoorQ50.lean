/- Texts put together: FR5c, FReg, FR5d, FR5e. -/
import Derived.Test.YtjbdchgadfhffaaGreatDoorQ49
import Derived.BigQuiet
import Derived.Test.YtjbdchgadfhffaaGreatDoorQ31
/- Acts of a pair of pools: Put of bytes. -/
namespace Go.Proofs.YtjbdchgadfhffaaGreatDoor
open Go.RowKit
set_option maxRecDepth 100000 in
set_option maxHeartbeats 4000000 in
theorem does11_other {w0 w : World} {pp p d q r n : Nat} {s : F.Po} {D : dSt} (h : PwE w0 w [(pp, PB11 d r (Ptr p) (Ptr q))] p d q r s s D D n (11 * n)) (hpp : w0.heap.size ≤ pp) (hnl : F.Nil s) (hs8 : D.size ≤ 8) (hn : n ≤ 30) (no off z : Int) (fa : Option Addr) (fn fc : Nat) (c : UInt8) (ka : Option Addr) (kn kc : Nat) (torn at_ : Int) (k : Int) (hk : k < 0 ∨ 7 < k) (bs : List UInt8) (hbl : bs.length = fn) (hfc : fn ≤ fc) (hA : At w0 fa bs) :
    Calls Tryz.prog 8 #[Ptr pp, .agg (act11 k no off z fa fn fc c ka kn kc torn at_)] w (PDo11 w0 pp (n + 1)) := by
  obtain ⟨ab, hab⟩ : ∃ ab, ab = w.heap.size := ⟨_, rfl⟩
  obtain ⟨wd, hwd⟩ : ∃ wd, wd = w.alloc (AB11 k no off z fa fn fc c ka kn kc torn at_) := ⟨_, rfl⟩
  have HP := hid (show PwE w0 wd [(ab, AB11 k no off z fa fn fc c ka kn kc torn at_), (pp, PB11 d r (Ptr p) (Ptr q))] p d q r s s D D n (11 * n) by rw [hwd, hab]; exact h.more ((Touch.refl _ w).alloc _) w.heap.size _ (heap_alloc_new w _) (Nat.le_refl _))
  have HPP := hid hpp
  have HN := hid (And.intro hnl (And.intro hs8 hn))
  have HG := hid h.facts
  have HPx := hid (HP.out.other (pp, PB11 d r (Ptr p) (Ptr q)) (List.mem_cons_of_mem _ List.mem_cons_self))
  have HAx := hid (HP.out.other (ab, AB11 k no off z fa fn fc c ka kn kc torn at_) List.mem_cons_self)
  have hl9 : s.L.length ≤ 10000 := by have := HG.out.1.len; have := HG.out.2.1.mo2; omega
  have e0 : (w.alloc (AB11 k no off z fa fn fc c ka kn kc torn at_)).cell? ⟨w.heap.size, 0, none⟩ = some (.int .i64 k) := cellOf (heap_alloc_new w _) 0
  have q0 : (k == 0) = false := by simp; omega
  have q1 : (k == 1) = false := by simp; omega
  have q2 : (k == 2) = false := by simp; omega
  have q3 : (k == 3) = false := by simp; omega
  have q4 : (k == 4) = false := by simp; omega
  have q5 : (k == 5) = false := by simp; omega
  have q6 : (k == 6) = false := by simp; omega
  have q7 : (k == 7) = false := by simp; omega
  obtain ⟨zz, hzz⟩ : ∃ zz : Int, zz = (F.putE s no bs : Int) := ⟨_, rfl⟩
  have HC1 := hid (show Calls Tryz.prog 12 #[Ptr p, .int .i64 no, .slice fa fn fc] wd.drew (PPw w0 [(ab, AB11 k no off z fa fn fc c ka kn kc torn at_), (pp, PB11 d r (Ptr p) (Ptr q))] p d q r (F.putS s no bs) s D D (n + 1) (11 * n) (.int .i64 zz)) by rw [hzz]; exact pw_put (HP.out.adds (Touch.refl _ wd).drew) (by omega) no fa bs fn fc hbl hfc (hA.adds (HP.out.adds (Touch.refl _ wd).drew).base))
  have HC2 := hid (fun (w2 : World) (h2 : PwE w0 w2 [(ab, AB11 k no off z fa fn fc c ka kn kc torn at_), (pp, PB11 d r (Ptr p) (Ptr q))] p d q r (F.putS s no bs) s D D (n + 1) (11 * n)) => show Calls Tryz.prog 23 #[Ptr q, .int .i64 no, .slice fa fn fc] w2 (PPw w0 [(ab, AB11 k no off z fa fn fc c ka kn kc torn at_), (pp, PB11 d r (Ptr p) (Ptr q))] p d q r (F.putS s no bs) (F.putS s no bs) D D (n + 1) (11 * n) (.int .i64 zz)) by rw [hzz]; exact pq_put h2 HG.out.1 HG.out.2.1.mo2 HN.out.1 no fa bs fn fc hbl hfc (hA.adds h2.base))
  clear hzz
  clear h hpp hnl hs8 hn hl9 hk hbl hfc hA
  go_enter Tryz.func8, Tryz.ntmps8
  go_upto_region 39 with fail
  rw [← hab, ← hwd]
  clear hab hwd e0
  refine H_begin (S := fun w' : World => w'.heap[pp]? = some (PB11 d r (Ptr p) (Ptr q)) ∧ w'.heap[ab]? = some (AB11 k no off z fa fn fc c ka kn kc torn at_)) (by kernel_rfl) ?_
  have hS : (fun w' : World => w'.heap[pp]? = some (PB11 d r (Ptr p) (Ptr q)) ∧ w'.heap[ab]? = some (AB11 k no off z fa fn fc c ka kn kc torn at_)) wd.drew := ⟨HPx.out, HAx.out⟩
  refine H_put (i := 0) 241 (v := Ptr pp) rfl rfl (by kernel_rfl) (by kernel_rfl) (by kernel_rfl) (fun _ _ _ h => h) (Or.inl ⟨by rfl, fun w' hw' => ?_⟩) hS ?_
  · go_simp
  simp only [Act.put, List.setIfInBounds_toArray, List.set_cons_zero, List.set_cons_succ]
  refine H_put (i := 1) 242 (v := Ptr pp) rfl rfl (by kernel_rfl) (by kernel_rfl) (by kernel_rfl) (fun _ _ _ h => h) (Or.inl ⟨by rfl, fun w' hw' => ?_⟩) hS ?_
  · go_simp
  simp only [Act.put, List.setIfInBounds_toArray, List.set_cons_zero, List.set_cons_succ]
  refine H_put (i := 2) 243 (v := .pointer (some ⟨pp, 2, none⟩)) rfl rfl (by kernel_rfl) (by kernel_rfl) (by kernel_rfl) (fun _ _ _ h => h) (Or.inl ⟨by rfl, fun w' hw' => ?_⟩) hS ?_
  · go_simp
  simp only [Act.put, List.setIfInBounds_toArray, List.set_cons_zero, List.set_cons_succ]
  refine H_put (i := 3) 244 (v := Ptr p) rfl rfl (by kernel_rfl) (by kernel_rfl) (by kernel_rfl) (fun _ _ _ h => h) (Or.inl ⟨by rfl, fun w' hw' => ?_⟩) hS ?_
  · have c : w'.cell? ⟨pp, 2, none⟩ = some (Ptr p) := cellOf hw'.1 2; go_simp
  simp only [Act.put, List.setIfInBounds_toArray, List.set_cons_zero, List.set_cons_succ]
  refine H_put (i := 4) 245 (v := .pointer (some ⟨ab, 1, none⟩)) rfl rfl (by kernel_rfl) (by kernel_rfl) (by kernel_rfl) (fun _ _ _ h => h) (Or.inl ⟨by rfl, fun w' hw' => ?_⟩) hS ?_
  · go_simp
  simp only [Act.put, List.setIfInBounds_toArray, List.set_cons_zero, List.set_cons_succ]
  refine H_put (i := 5) 246 (v := .int .i64 no) rfl rfl (by kernel_rfl) (by kernel_rfl) (by kernel_rfl) (fun _ _ _ h => h) (Or.inl ⟨by rfl, fun w' hw' => ?_⟩) hS ?_
  · have c : w'.cell? ⟨ab, 1, none⟩ = some (.int .i64 no) := cellOf hw'.2 1; go_simp
  simp only [Act.put, List.setIfInBounds_toArray, List.set_cons_zero, List.set_cons_succ]
  refine H_put (i := 6) 247 (v := .pointer (some ⟨ab, 4, none⟩)) rfl rfl (by kernel_rfl) (by kernel_rfl) (by kernel_rfl) (fun _ _ _ h => h) (Or.inl ⟨by rfl, fun w' hw' => ?_⟩) hS ?_
  · go_simp
  simp only [Act.put, List.setIfInBounds_toArray, List.set_cons_zero, List.set_cons_succ]
  refine H_put (i := 7) 248 (v := .slice fa fn fc) rfl rfl (by kernel_rfl) (by kernel_rfl) (by kernel_rfl) (fun _ _ _ h => h) (Or.inl ⟨by rfl, fun w' hw' => ?_⟩) hS ?_
  · have c : w'.cell? ⟨ab, 4, none⟩ = some (.slice fa fn fc) := cellOf hw'.2 4; go_simp
  simp only [Act.put, List.setIfInBounds_toArray, List.set_cons_zero, List.set_cons_succ]
  refine H_put (i := 9) 250 (v := Ptr pp) rfl rfl (by kernel_rfl) (by kernel_rfl) (by kernel_rfl) (fun _ _ _ h => h) (Or.inl ⟨by rfl, fun w' hw' => ?_⟩) hS ?_
  · go_simp
  simp only [Act.put, List.setIfInBounds_toArray, List.set_cons_zero, List.set_cons_succ]
  refine H_put (i := 10) 251 (v := Ptr pp) rfl rfl (by kernel_rfl) (by kernel_rfl) (by kernel_rfl) (fun _ _ _ h => h) (Or.inl ⟨by rfl, fun w' hw' => ?_⟩) hS ?_
  · go_simp
  simp only [Act.put, List.setIfInBounds_toArray, List.set_cons_zero, List.set_cons_succ]
  refine H_put (i := 11) 252 (v := .pointer (some ⟨pp, 3, none⟩)) rfl rfl (by kernel_rfl) (by kernel_rfl) (by kernel_rfl) (fun _ _ _ h => h) (Or.inl ⟨by rfl, fun w' hw' => ?_⟩) hS ?_
  · go_simp
  simp only [Act.put, List.setIfInBounds_toArray, List.set_cons_zero, List.set_cons_succ]
  refine H_put (i := 12) 253 (v := Ptr q) rfl rfl (by kernel_rfl) (by kernel_rfl) (by kernel_rfl) (fun _ _ _ h => h) (Or.inl ⟨by rfl, fun w' hw' => ?_⟩) hS ?_
  · have c : w'.cell? ⟨pp, 3, none⟩ = some (Ptr q) := cellOf hw'.1 3; go_simp
  simp only [Act.put, List.setIfInBounds_toArray, List.set_cons_zero, List.set_cons_succ]
  refine H_put (i := 13) 254 (v := .pointer (some ⟨ab, 1, none⟩)) rfl rfl (by kernel_rfl) (by kernel_rfl) (by kernel_rfl) (fun _ _ _ h => h) (Or.inl ⟨by rfl, fun w' hw' => ?_⟩) hS ?_
  · go_simp
  simp only [Act.put, List.setIfInBounds_toArray, List.set_cons_zero, List.set_cons_succ]
  refine H_put (i := 14) 255 (v := .int .i64 no) rfl rfl (by kernel_rfl) (by kernel_rfl) (by kernel_rfl) (fun _ _ _ h => h) (Or.inl ⟨by rfl, fun w' hw' => ?_⟩) hS ?_
  · have c : w'.cell? ⟨ab, 1, none⟩ = some (.int .i64 no) := cellOf hw'.2 1; go_simp
  simp only [Act.put, List.setIfInBounds_toArray, List.set_cons_zero, List.set_cons_succ]
  refine H_put (i := 15) 256 (v := .pointer (some ⟨ab, 4, none⟩)) rfl rfl (by kernel_rfl) (by kernel_rfl) (by kernel_rfl) (fun _ _ _ h => h) (Or.inl ⟨by rfl, fun w' hw' => ?_⟩) hS ?_
  · go_simp
  simp only [Act.put, List.setIfInBounds_toArray, List.set_cons_zero, List.set_cons_succ]
  refine H_put (i := 16) 257 (v := .slice fa fn fc) rfl rfl (by kernel_rfl) (by kernel_rfl) (by kernel_rfl) (fun _ _ _ h => h) (Or.inl ⟨by rfl, fun w' hw' => ?_⟩) hS ?_
  · have c : w'.cell? ⟨ab, 4, none⟩ = some (.slice fa fn fc) := cellOf hw'.2 4; go_simp
  simp only [Act.put, List.setIfInBounds_toArray, List.set_cons_zero, List.set_cons_succ]
  refine H_call (i := 8) 249 12 #[Ptr p, .int .i64 no, .slice fa fn fc] (by kernel_rfl) rfl rfl (by rfl) (by go_simp) (HC1.out) ?_
  rintro e w2 ⟨rfl, H2⟩
  have hS2 : (fun w' : World => w'.heap[pp]? = some (PB11 d r (Ptr p) (Ptr q)) ∧ w'.heap[ab]? = some (AB11 k no off z fa fn fc c ka kn kc torn at_)) _ := ⟨H2.out.other (pp, PB11 d r (Ptr p) (Ptr q)) (List.mem_cons_of_mem _ List.mem_cons_self), H2.out.other (ab, AB11 k no off z fa fn fc c ka kn kc torn at_) List.mem_cons_self⟩
  refine ⟨_, _, rfl, hS2, fun w' h => h, ?_⟩
  clear hS; have hS := hS2; clear hS2
  simp only [Act.put, List.setIfInBounds_toArray, List.set_cons_zero, List.set_cons_succ]
  refine H_call (i := 17) 258 23 #[Ptr q, .int .i64 no, .slice fa fn fc] (by kernel_rfl) rfl rfl (by rfl) (by go_simp) (HC2.out w2 H2.out) ?_
  rintro e w3 ⟨rfl, H3⟩
  have hS2 : (fun w' : World => w'.heap[pp]? = some (PB11 d r (Ptr p) (Ptr q)) ∧ w'.heap[ab]? = some (AB11 k no off z fa fn fc c ka kn kc torn at_)) _ := ⟨H3.out.other (pp, PB11 d r (Ptr p) (Ptr q)) (List.mem_cons_of_mem _ List.mem_cons_self), H3.out.other (ab, AB11 k no off z fa fn fc c ka kn kc torn at_) List.mem_cons_self⟩
  refine ⟨_, _, rfl, hS2, fun w' h => h, ?_⟩
  clear hS; have hS := hS2; clear hS2
  simp only [Act.put, List.setIfInBounds_toArray, List.set_cons_zero, List.set_cons_succ]
  refine H_put (i := 18) 259 (v := .bool true) rfl rfl (by kernel_rfl) (by kernel_rfl) (by kernel_rfl) (fun _ _ _ h => h) (Or.inl ⟨by rfl, fun w' hw' => ?_⟩) hS ?_
  · go_simp
  simp only [Act.put, List.setIfInBounds_toArray, List.set_cons_zero, List.set_cons_succ]
  refine H_put (i := 19) 4 (v := .bool true) rfl rfl (by kernel_rfl) (by kernel_rfl) (by kernel_rfl) (fun _ _ _ h => h) (Or.inl ⟨by rfl, fun w' hw' => ?_⟩) hS ?_
  · go_simp
  simp only [Act.put, List.setIfInBounds_toArray, List.set_cons_zero, List.set_cons_succ]
  refine wpAnyH_done (by kernel_rfl) ?_ _
  clear hS
  go_wp2_with fail
  go_ret
  exact ⟨rfl, p, d, q, r, _, _, (H3.out.fewer (fun x hx => List.mem_cons_of_mem _ hx)).later (by omega) (by omega), HN.out.1.put no bs, HN.out.2.1⟩
end Go.Proofs.YtjbdchgadfhffaaGreatDoor

/- A region that draws its order, whose last operations wait for the others through a chain; a condition on the world is asked only till then. -/
namespace Go.Proofs.YtjbdchgadfhffaaGreatDoor

section
variable {P : Program} {ops : Array Oper} {Q : Exit → Act → World → Prop} {md : Region.Mode} {S : World → Prop} {Xs : List Nat}

/-- Whatever order is picked from here on; S holds behind each operation but the numbers Xs. -/
def cwpAnyE (P : Program) (md : Region.Mode) (ops : Array Oper) (Q : Exit → Act → World → Prop) (S : World → Prop) (Xs : List Nat) : Nat → Array Bool → Act → World → Prop
  | 0, listed, a, w => Region.ready md ops listed = [] ∧ Q .normal a w
  | fuel + 1, listed, a, w =>
    (Region.ready md ops listed = [] → Q .normal a w) ∧
    ∀ i ∈ Region.ready md ops listed, wpOp P ops Q i (fun a' w' => (i ∉ Xs → S w') ∧ cwpAnyE P md ops Q S Xs fuel (listed.setIfInBounds i true) a' w') a w
set_option maxRecDepth 100000 in
theorem wpAny_of_c : ∀ (fuel : Nat) (listed : Array Bool) (a : Act) (w : World), cwpAnyE P md ops Q S Xs fuel listed a w → wpAny P md ops Q fuel listed a w := by
  intro fuel
  induction fuel with
  | zero => exact fun _ _ _ h => h
  | succ n ih => exact fun _ _ _ h => ⟨h.1, fun i hi => wpOp_mono (fun a' w' q => ih _ a' w' q.2) (h.2 i hi)⟩
/-- The numbers Xs wait for i through the numbers cs, none of which has come up. -/
def chained (md : Region.Mode) (ops : Array Oper) (listed : Array Bool) (Xs : List Nat) (i : Nat) (cs : List Nat) : Bool :=
  Xs.all (fun x => cs.contains x) && cs.all (fun k => (i :: cs).any (fun k' => pwaitsFor md ops k k')) && (i :: cs).all (fun k => !(listed.getD k true))
set_option maxRecDepth 100000 in
theorem chained_out {listed : Array Bool} {i j : Nat} {oj : Oper} {cs : List Nat} (h : chained md ops listed Xs i cs = true) (hoj : ops[j]? = some oj) (hall : ∀ e ∈ oj.after, Region.binds md e = true → listed[e.on]?.getD false = true) : j ∉ cs := by
  simp only [chained, Bool.and_eq_true, List.all_eq_true, List.any_eq_true, Bool.not_eq_true'] at h
  obtain ⟨⟨_, h2⟩, h3⟩ := h
  intro c
  obtain ⟨k, hk, hw⟩ := h2 j c
  simp only [pwaitsFor, hoj, Array.any_eq_true, Bool.and_eq_true, beq_iff_eq] at hw
  obtain ⟨x, hx, b1, b2⟩ := hw
  have q1 := hall _ (Array.getElem_mem hx) b1
  have q0 := h3 k hk
  rw [b2] at q1
  rcases Nat.lt_or_ge k listed.size with c | c
  · simp [c] at q0 q1; rw [q0] at q1; cases q1
  · simp [Array.getElem?_eq_none c] at q1
set_option maxRecDepth 100000 in
theorem chained_set {listed : Array Bool} {i j : Nat} {cs : List Nat} (h : chained md ops listed Xs i cs = true) (e : j ≠ i) (hc : j ∉ cs) : chained md ops (listed.setIfInBounds j true) Xs i cs = true := by
  simp only [chained, Bool.and_eq_true, List.all_eq_true, Bool.not_eq_true'] at h ⊢
  refine ⟨h.1, fun k hk => ?_⟩
  have hkj : j ≠ k := by
    rintro rfl
    rcases List.mem_cons.1 hk with c | c
    · exact e c
    · exact hc c
  rw [getD_set_ne true hkj]
  exact h.2 k hk
set_option maxRecDepth 100000 in
theorem Pc_first {i : Nat} {oi : Oper} {v : Value} (cs : List Nat) (hi : ops[i]? = some oi) (hsel : ∀ (j : Nat) (o : Oper) cs b, ops[j]? = some o → o.op ≠ .select cs b)
    (hQ : ∀ c a w, Q (.panic c) (a.put oi.dst v) w → Q (.panic c) a w) (fuel : Nat) :
    ∀ (listed : Array Bool) (a : Act) (w : World), chained md ops listed Xs i cs = true →
      (∀ j oj, ops[j]? = some oj → j ≠ i → listed.getD j true = false → (∀ e ∈ oj.after, Region.binds md e = true → e.on ≠ i) → oi.apart ops oj = true) →
      i ∈ Region.ready md ops listed → YieldsIf P ops S oi v a → S w →
      cwpAnyE P md ops Q S Xs fuel (listed.setIfInBounds i true) (a.put oi.dst v) w → cwpAnyE P md ops Q S Xs (fuel + 1) listed a w := by
  induction fuel with
  | zero =>
    intro listed a w _ _ hr hy hS H
    refine ⟨fun h => (by rw [h] at hr; cases hr), fun j hj => ?_⟩
    by_cases e : j = i
    · subst e; exact hy.wpOp hi hS ⟨fun _ => hS, H⟩
    · have q := ready_mono hj e
      rw [H.1] at q; cases q
  | succ fuel ih =>
    intro listed a w hX hfree hr hy hS H
    refine ⟨fun h => (by rw [h] at hr; cases hr), fun j hj => ?_⟩
    by_cases e : j = i
    · subst e; exact hy.wpOp hi hS ⟨fun _ => hS, H⟩
    · have q := H.2 j (ready_mono hj e)
      obtain ⟨hun, oj, hoj, hall⟩ := mem_ready.1 hj
      have hnot : ∀ x ∈ oj.after, Region.binds md x = true → x.on ≠ i := fun x hx hb hxi => by
        have q1 := hall x hx hb
        have q0 := (mem_ready.1 hr).1
        rw [hxi] at q1
        rcases Nat.lt_or_ge i listed.size with c | c
        · simp [c] at q0 q1; rw [q0] at q1; cases q1
        · simp [Array.getElem?_eq_none c] at q1
      have q2 := wpOp_putIf hoj (hfree j oj hoj e hun hnot) (fun cs b => hsel i oi cs b hi) (fun cs b => hsel j oj cs b hoj) hQ hy q
      have hout : j ∉ cs := chained_out hX hoj (fun x hx hb => by have := hall x hx hb; simpa using this)
      have hlast : j ∉ Xs := fun c => by
        simp only [chained, Bool.and_eq_true, List.all_eq_true] at hX
        exact hout (by simpa using hX.1.1 j c)
      have hfree' : ∀ k ok, ops[k]? = some ok → k ≠ i → (listed.setIfInBounds j true).getD k true = false →
          (∀ x ∈ ok.after, Region.binds md x = true → x.on ≠ i) → oi.apart ops ok = true := fun k ok hk hki hu hn => by
        refine hfree k ok hk hki ?_ hn
        by_cases c : j = k
        · subst c; exact hun
        · rw [getD_set_ne true c] at hu; exact hu
      refine wpOp_mono (fun a' w' q3 => ⟨fun _ => q3.2.1 hlast, ih (listed.setIfInBounds j true) a' w' (chained_set hX e hout) hfree' (ready_mono hr (Ne.symm e)) q3.1 (q3.2.1 hlast) ?_⟩) q2
      rw [Array.setIfInBounds_comm _ _ e]
      exact q3.2.2
/-- Number i is taken first. -/
theorem Pc_put {i : Nat} {oi : Oper} (d : Nat) (cs : List Nat) {v : Value} {fuel : Nat} {listed : Array Bool} {a : Act} {w : World} (hi : ops[i]? = some oi) (hd : oi.dst = some d)
    (hs : Region.noSelect ops = true) (hf : Region.free md ops listed i = true) (hr : (Region.ready md ops listed).contains i = true)
    (hX : chained md ops listed Xs i cs = true) (hQ : ∀ c a w, Q (.panic c) (a.put oi.dst v) w → Q (.panic c) a w) (hy : YieldsIf P ops S oi v a) (hS : S w)
    (h : cwpAnyE P md ops Q S Xs fuel (listed.setIfInBounds i true) (a.put (some d) v) w) : cwpAnyE P md ops Q S Xs (fuel + 1) listed a w :=
  Pc_first cs hi (Region.noSelect_spec hs) hQ fuel listed a w hX (Region.free_spec hi hf) (by simpa using hr) hy hS (by rw [hd]; exact h)
set_option maxRecDepth 100000 in
/-- One alone may come up. -/
theorem Pc_one {i : Nat} {o : Oper} {fuel : Nat} {listed : Array Bool} {a : Act} {w : World} (hr : Region.ready md ops listed = [i]) (ho : ops[i]? = some o)
    (h : ∀ K' : Act → World → Prop, (∀ a w, (i ∉ Xs → S w) → cwpAnyE P md ops Q S Xs fuel (listed.setIfInBounds i true) a w → K' a w) → if Region.wanted o (yielded ops a.tmps) = true then Oper.wp P o a w K' Q else K' (a.put o.dst undef) w) :
    cwpAnyE P md ops Q S Xs (fuel + 1) listed a w := by
  refine ⟨fun c => (by rw [hr] at c; cases c), fun j hj => ?_⟩
  rw [hr] at hj
  obtain rfl := List.mem_singleton.1 hj
  exact wpOp_step ho (fun K' hK => h K' (fun a w h1 h2 => hK a w ⟨h1, h2⟩))
set_option maxRecDepth 100000 in
theorem Pc_do {i : Nat} {o : Oper} (d : Option Nat) {fuel : Nat} {listed : Array Bool} {a : Act} {w : World} (hr : Region.ready md ops listed = [i]) (ho : ops[i]? = some o) (hd : o.dst = d) (hg : o.guard = none)
    (h : ∀ K' : Act → World → Prop, (∀ v w, (i ∉ Xs → S w) → cwpAnyE P md ops Q S Xs fuel (listed.setIfInBounds i true) (a.put d v) w → K' (a.put o.dst v) w) → Oper.wp P o a w K' Q) :
    cwpAnyE P md ops Q S Xs (fuel + 1) listed a w := by
  refine Pc_one hr ho (fun K' hK => ?_)
  rw [if_pos (by simp [Region.wanted, hg])]
  exact h K' (fun v w h1 h2 => hK _ _ h1 (by rw [hd]; exact h2))
theorem Pc_done {listed : Array Bool} {a : Act} {w : World} (hr : Region.ready md ops listed = []) (h : Q .normal a w) : ∀ fuel, cwpAnyE P md ops Q S Xs fuel listed a w
  | 0 => ⟨hr, h⟩
  | _ + 1 => ⟨fun _ => h, by rw [hr]; simp⟩
theorem Pc_begin {id : Nat} {a : Act} {w : World} (hm : P.follows .mixedOrders = true) (h : cwpAnyE P .any ops Q S Xs ops.size (Array.replicate ops.size false) a w.drew) : (Code.region id ops true).wp P Q a w :=
  wp_region_any hm (wpAny_of_c _ _ _ _ h)
set_option maxRecDepth 100000 in
/-- A call comes up alone. -/
theorem Pc_call {i : Nat} {o : Oper} (d f : Nat) (args : Array Value) {fuel : Nat} {listed : Array Bool} {a : Act} {w : World} (hr : Region.ready md ops listed = [i]) (ho : ops[i]? = some o) (hd : o.dst = some d)
    (hw : Region.wanted o (yielded ops a.tmps) = true) (hx : (execOp a.eval o).run P w = .ok (.enter f args) w) {R : Ending → World → Prop} (hc : Calls P f args w R)
    (h : ∀ e w', R e w' → ∃ v : Value, e = .returned v ∧ (i ∉ Xs → S w') ∧ cwpAnyE P md ops Q S Xs fuel (listed.setIfInBounds i true) (a.put (some d) v) w') : cwpAnyE P md ops Q S Xs (fuel + 1) listed a w := by
  refine Pc_one hr ho (fun K' hK => ?_)
  rw [if_pos hw]
  unfold Oper.wp
  rw [hx]
  refine hc.mono fun e w' hR => ?_
  obtain ⟨v, rfl, h1, h2⟩ := h e w' hR
  refine hK _ _ h1 ?_
  rw [hd]; exact h2
end
end Go.Proofs.YtjbdchgadfhffaaGreatDoor

/- Acts of a pair of pools: a loss of power. -/
namespace Go.Proofs.YtjbdchgadfhffaaGreatDoor
open Go.RowKit
set_option maxRecDepth 100000 in
set_option maxHeartbeats 4000000 in
theorem does11_lose_bad {w0 w : World} {pp p d q r n : Nat} {s : F.Po} {D : dSt} (h : PwE w0 w [(pp, PB11 d r (Ptr p) (Ptr q))] p d q r s s D D n (11 * n)) (hpp : w0.heap.size ≤ pp) (hnl : F.Nil s) (hs8 : D.size ≤ 8) (hn : n ≤ 30) (no off z : Int) (fa : Option Addr) (fn fc : Nat) (c : UInt8) (ka : Option Addr) (kn kc : Nat) (torn at_ : Int) (ht : 0 ≤ torn ∧ torn < (D.W.length : Int)) (hat : at_ < 0 ∨ 256 < at_) :
    Calls Tryz.prog 8 #[Ptr pp, .agg (act11 6 no off z fa fn fc c ka kn kc torn at_)] w (PDo11 w0 pp (n + 1)) := by
  obtain ⟨ab, hab⟩ : ∃ ab, ab = w.heap.size := ⟨_, rfl⟩
  obtain ⟨wd, hwd⟩ : ∃ wd, wd = w.alloc (AB11 6 no off z fa fn fc c ka kn kc torn at_) := ⟨_, rfl⟩
  have HP := hid (show PwE w0 wd [(ab, AB11 6 no off z fa fn fc c ka kn kc torn at_), (pp, PB11 d r (Ptr p) (Ptr q))] p d q r s s D D n (11 * n) by rw [hwd, hab]; exact h.more ((Touch.refl _ w).alloc _) w.heap.size _ (heap_alloc_new w _) (Nat.le_refl _))
  have HPP := hid hpp
  have HN := hid (And.intro hnl (And.intro hs8 hn))
  have HG := hid h.facts
  have HPx := hid (HP.out.other (pp, PB11 d r (Ptr p) (Ptr q)) (List.mem_cons_of_mem _ List.mem_cons_self))
  have HAx := hid (HP.out.other (ab, AB11 6 no off z fa fn fc c ka kn kc torn at_) List.mem_cons_self)
  have hl9 : s.L.length ≤ 10000 := by have := HG.out.1.len; have := HG.out.2.1.mo2; omega
  have e0 : (w.alloc (AB11 6 no off z fa fn fc c ka kn kc torn at_)).cell? ⟨w.heap.size, 0, none⟩ = some (.int .i64 6) := cellOf (heap_alloc_new w _) 0
  have hW : D.W.length ≤ 800 := by have := HG.out.2.2.1.waits; omega
  have HL1 := hid (show Calls Tryz.prog 31 #[Ptr d, .agg #[.slice ka kn kc, .int .i64 torn, .int .i64 at_]] wd.drew (Adding (.tuple #[.pointer none, .int .i64 2]) wd.drew) by
    obtain ⟨OL, OD, OQ, OR, hh⟩ := HP.out.adds (Touch.refl _ wd).drew
    exact do_bad hh.wl.disk (by omega) HG.out.2.2.1.size ka kn kc torn at_ ht hat)
  have HL2 := hid (fun w2 (hA : Adds wd w2) => show Calls Tryz.prog 32 #[Ptr r, .agg #[.slice ka kn kc, .int .i64 torn, .int .i64 at_]] w2 (Adding (.tuple #[.pointer none, .int .i64 2]) w2) by
    obtain ⟨OL, OD, OQ, OR, hh⟩ := HP.out.adds hA
    obtain ⟨hv, wv, hd, _⟩ := hh.ro
    exact (rlose_bad 0 r hv wv D ka kn kc torn at_ w2 hd ht hat).mono (fun _ _ x => x))
  clear h hpp hnl hs8 hn hl9 ht hat hW
  go_enter Tryz.func8, Tryz.ntmps8
  go_upto_region 31 with fail
  rw [← hab, ← hwd]
  clear hab hwd e0
  refine H_begin (S := fun w' : World => Adds wd w') (by kernel_rfl) ?_
  have hS : (fun w' : World => Adds wd w') wd.drew := (Touch.refl _ wd).drew
  refine H_put (i := 0) 156 (v := Ptr pp) rfl rfl (by kernel_rfl) (by kernel_rfl) (by kernel_rfl) (fun _ _ _ h => h) (Or.inl ⟨by rfl, fun w' hw' => ?_⟩) hS ?_
  · go_simp
  simp only [Act.put, List.setIfInBounds_toArray, List.set_cons_zero, List.set_cons_succ]
  refine H_put (i := 1) 157 (v := Ptr pp) rfl rfl (by kernel_rfl) (by kernel_rfl) (by kernel_rfl) (fun _ _ _ h => h) (Or.inl ⟨by rfl, fun w' hw' => ?_⟩) hS ?_
  · go_simp
  simp only [Act.put, List.setIfInBounds_toArray, List.set_cons_zero, List.set_cons_succ]
  refine H_put (i := 2) 158 (v := .pointer (some ⟨pp, 0, none⟩)) rfl rfl (by kernel_rfl) (by kernel_rfl) (by kernel_rfl) (fun _ _ _ h => h) (Or.inl ⟨by rfl, fun w' hw' => ?_⟩) hS ?_
  · go_simp
  simp only [Act.put, List.setIfInBounds_toArray, List.set_cons_zero, List.set_cons_succ]
  refine H_put (i := 3) 159 (v := Ptr d) rfl rfl (by kernel_rfl) (by kernel_rfl) (by kernel_rfl) (fun _ _ _ h => h) (Or.inl ⟨by rfl, fun w' hw' => ?_⟩) hS ?_
  · have c : w'.cell? ⟨pp, 0, none⟩ = some (Ptr d) := cellOf ((hw').at' HPx.out id) 0; go_simp
  simp only [Act.put, List.setIfInBounds_toArray, List.set_cons_zero, List.set_cons_succ]
  refine H_put (i := 4) 160 (v := .pointer (some ⟨ab, 6, none⟩)) rfl rfl (by kernel_rfl) (by kernel_rfl) (by kernel_rfl) (fun _ _ _ h => h) (Or.inl ⟨by rfl, fun w' hw' => ?_⟩) hS ?_
  · go_simp
  simp only [Act.put, List.setIfInBounds_toArray, List.set_cons_zero, List.set_cons_succ]
  refine H_put (i := 5) 161 (v := .agg #[.slice ka kn kc, .int .i64 torn, .int .i64 at_]) rfl rfl (by kernel_rfl) (by kernel_rfl) (by kernel_rfl) (fun _ _ _ h => h) (Or.inl ⟨by rfl, fun w' hw' => ?_⟩) hS ?_
  · have hbx := (hw').at' HAx.out id; have c6 : w'.cell? ⟨ab, 6, none⟩ = some (.slice ka kn kc) := cellOf hbx 6; have c7 : w'.cell? ⟨ab, 7, none⟩ = some (.int .i64 torn) := cellOf hbx 7; have c8 : w'.cell? ⟨ab, 8, none⟩ = some (.int .i64 at_) := cellOf hbx 8; go_simp
  simp only [Act.put, List.setIfInBounds_toArray, List.set_cons_zero, List.set_cons_succ]
  refine H_call (i := 6) 162 31 #[Ptr d, .agg #[.slice ka kn kc, .int .i64 torn, .int .i64 at_]] (by kernel_rfl) rfl rfl (by rfl) (by go_simp) (HL1.out) ?_
  rintro e w2 ⟨rfl, hA2⟩
  have HA2 := hid ((Touch.refl _ wd).drew.trans hA2)
  clear hA2
  have hS2 : (fun w' : World => Adds wd w') _ := HA2.out
  refine ⟨_, _, rfl, hS2, fun w' h => h, ?_⟩
  clear hS; have hS := hS2; clear hS2
  simp only [Act.put, List.setIfInBounds_toArray, List.set_cons_zero, List.set_cons_succ]
  refine H_put (i := 7) 155 (v := .tuple #[.pointer none, .int .i64 2]) rfl rfl (by kernel_rfl) (by kernel_rfl) (by kernel_rfl) (fun _ _ _ h => h) (Or.inl ⟨by rfl, fun w' hw' => ?_⟩) hS ?_
  · go_simp
  simp only [Act.put, List.setIfInBounds_toArray, List.set_cons_zero, List.set_cons_succ]
  refine H_put (i := 8) 163 (v := .pointer none) rfl rfl (by kernel_rfl) (by kernel_rfl) (by kernel_rfl) (fun _ _ _ h => h) (Or.inl ⟨by rfl, fun w' hw' => ?_⟩) hS ?_
  · go_simp
  simp only [Act.put, List.setIfInBounds_toArray, List.set_cons_zero, List.set_cons_succ]
  refine H_put (i := 9) 164 (v := .int .i64 2) rfl rfl (by kernel_rfl) (by kernel_rfl) (by kernel_rfl) (fun _ _ _ h => h) (Or.inl ⟨by rfl, fun w' hw' => ?_⟩) hS ?_
  · go_simp
  simp only [Act.put, List.setIfInBounds_toArray, List.set_cons_zero, List.set_cons_succ]
  refine H_put (i := 10) 15 (v := .pointer none) rfl rfl (by kernel_rfl) (by kernel_rfl) (by kernel_rfl) (fun _ _ _ h => h) (Or.inl ⟨by rfl, fun w' hw' => ?_⟩) hS ?_
  · go_simp
  simp only [Act.put, List.setIfInBounds_toArray, List.set_cons_zero, List.set_cons_succ]
  refine H_put (i := 11) 16 (v := .int .i64 2) rfl rfl (by kernel_rfl) (by kernel_rfl) (by kernel_rfl) (fun _ _ _ h => h) (Or.inl ⟨by rfl, fun w' hw' => ?_⟩) hS ?_
  · go_simp
  simp only [Act.put, List.setIfInBounds_toArray, List.set_cons_zero, List.set_cons_succ]
  refine wpAnyH_done (by kernel_rfl) ?_ _
  clear hS
  have HPx2 := hid (HA2.out.at' HPx.out id)
  have HAx2 := hid (HA2.out.at' HAx.out id)
  go_upto_region 32 with fail
  refine H_begin (S := fun w' : World => Adds w2 w') (by kernel_rfl) ?_
  have hS : (fun w' : World => Adds w2 w') w2.drew := (Touch.refl _ w2).drew
  refine H_put (i := 0) 166 (v := Ptr pp) rfl rfl (by kernel_rfl) (by kernel_rfl) (by kernel_rfl) (fun _ _ _ h => h) (Or.inl ⟨by rfl, fun w' hw' => ?_⟩) hS ?_
  · go_simp
  simp only [Act.put, List.setIfInBounds_toArray, List.set_cons_zero, List.set_cons_succ]
  refine H_put (i := 1) 167 (v := Ptr pp) rfl rfl (by kernel_rfl) (by kernel_rfl) (by kernel_rfl) (fun _ _ _ h => h) (Or.inl ⟨by rfl, fun w' hw' => ?_⟩) hS ?_
  · go_simp
  simp only [Act.put, List.setIfInBounds_toArray, List.set_cons_zero, List.set_cons_succ]
  refine H_put (i := 2) 168 (v := .pointer (some ⟨pp, 1, none⟩)) rfl rfl (by kernel_rfl) (by kernel_rfl) (by kernel_rfl) (fun _ _ _ h => h) (Or.inl ⟨by rfl, fun w' hw' => ?_⟩) hS ?_
  · go_simp
  simp only [Act.put, List.setIfInBounds_toArray, List.set_cons_zero, List.set_cons_succ]
  refine H_put (i := 3) 169 (v := Ptr r) rfl rfl (by kernel_rfl) (by kernel_rfl) (by kernel_rfl) (fun _ _ _ h => h) (Or.inl ⟨by rfl, fun w' hw' => ?_⟩) hS ?_
  · have c : w'.cell? ⟨pp, 1, none⟩ = some (Ptr r) := cellOf ((hw').at' HPx2.out id) 1; go_simp
  simp only [Act.put, List.setIfInBounds_toArray, List.set_cons_zero, List.set_cons_succ]
  refine H_put (i := 4) 170 (v := .pointer (some ⟨ab, 6, none⟩)) rfl rfl (by kernel_rfl) (by kernel_rfl) (by kernel_rfl) (fun _ _ _ h => h) (Or.inl ⟨by rfl, fun w' hw' => ?_⟩) hS ?_
  · go_simp
  simp only [Act.put, List.setIfInBounds_toArray, List.set_cons_zero, List.set_cons_succ]
  refine H_put (i := 5) 171 (v := .agg #[.slice ka kn kc, .int .i64 torn, .int .i64 at_]) rfl rfl (by kernel_rfl) (by kernel_rfl) (by kernel_rfl) (fun _ _ _ h => h) (Or.inl ⟨by rfl, fun w' hw' => ?_⟩) hS ?_
  · have hbx := (hw').at' HAx2.out id; have c6 : w'.cell? ⟨ab, 6, none⟩ = some (.slice ka kn kc) := cellOf hbx 6; have c7 : w'.cell? ⟨ab, 7, none⟩ = some (.int .i64 torn) := cellOf hbx 7; have c8 : w'.cell? ⟨ab, 8, none⟩ = some (.int .i64 at_) := cellOf hbx 8; go_simp
  simp only [Act.put, List.setIfInBounds_toArray, List.set_cons_zero, List.set_cons_succ]
  refine H_call (i := 6) 172 32 #[Ptr r, .agg #[.slice ka kn kc, .int .i64 torn, .int .i64 at_]] (by kernel_rfl) rfl rfl (by rfl) (by go_simp) (HL2.out w2.drew (HA2.out.trans hS)) ?_
  rintro e w3 ⟨rfl, hA3⟩
  have HA3 := hid ((Touch.refl _ w2).drew.trans hA3)
  clear hA3
  have hS2 : (fun w' : World => Adds w2 w') _ := HA3.out
  refine ⟨_, _, rfl, hS2, fun w' h => h, ?_⟩
  clear hS; have hS := hS2; clear hS2
  simp only [Act.put, List.setIfInBounds_toArray, List.set_cons_zero, List.set_cons_succ]
  refine H_put (i := 7) 165 (v := .tuple #[.pointer none, .int .i64 2]) rfl rfl (by kernel_rfl) (by kernel_rfl) (by kernel_rfl) (fun _ _ _ h => h) (Or.inl ⟨by rfl, fun w' hw' => ?_⟩) hS ?_
  · go_simp
  simp only [Act.put, List.setIfInBounds_toArray, List.set_cons_zero, List.set_cons_succ]
  refine H_put (i := 8) 173 (v := .pointer none) rfl rfl (by kernel_rfl) (by kernel_rfl) (by kernel_rfl) (fun _ _ _ h => h) (Or.inl ⟨by rfl, fun w' hw' => ?_⟩) hS ?_
  · go_simp
  simp only [Act.put, List.setIfInBounds_toArray, List.set_cons_zero, List.set_cons_succ]
  refine H_put (i := 9) 174 (v := .int .i64 2) rfl rfl (by kernel_rfl) (by kernel_rfl) (by kernel_rfl) (fun _ _ _ h => h) (Or.inl ⟨by rfl, fun w' hw' => ?_⟩) hS ?_
  · go_simp
  simp only [Act.put, List.setIfInBounds_toArray, List.set_cons_zero, List.set_cons_succ]
  refine H_put (i := 10) 17 (v := .pointer none) rfl rfl (by kernel_rfl) (by kernel_rfl) (by kernel_rfl) (fun _ _ _ h => h) (Or.inl ⟨by rfl, fun w' hw' => ?_⟩) hS ?_
  · go_simp
  simp only [Act.put, List.setIfInBounds_toArray, List.set_cons_zero, List.set_cons_succ]
  refine H_put (i := 11) 18 (v := .int .i64 2) rfl rfl (by kernel_rfl) (by kernel_rfl) (by kernel_rfl) (fun _ _ _ h => h) (Or.inl ⟨by rfl, fun w' hw' => ?_⟩) hS ?_
  · go_simp
  simp only [Act.put, List.setIfInBounds_toArray, List.set_cons_zero, List.set_cons_succ]
  refine wpAnyH_done (by kernel_rfl) ?_ _
  clear hS
  go_wp2_with fail
  go_ret
  exact ⟨rfl, p, d, q, r, _, _, ((HP.out.adds (HA2.out.trans HA3.out)).fewer (fun x hx => List.mem_cons_of_mem _ hx)).later (by omega) (by omega), HN.out.1, HN.out.2.1⟩
set_option maxRecDepth 100000 in
set_option maxHeartbeats 4000000 in
theorem does11_lose_ok {w0 w : World} {pp p d q r n : Nat} {s : F.Po} {D : dSt} (h : PwE w0 w [(pp, PB11 d r (Ptr p) (Ptr q))] p d q r s s D D n (11 * n)) (hpp : w0.heap.size ≤ pp) (hnl : F.Nil s) (hs8 : D.size ≤ 8) (hn : n ≤ 30) (no off z : Int) (fa : Option Addr) (fn fc : Nat) (c : UInt8) (ka : Option Addr) (kn kc : Nat) (torn at_ : Int) (ks : List Bool) (hks : KeptAt w0 ka ks) (hkn : ks.length = kn) (hk64 : kn ≤ 9223372036854775807) (hat : 0 ≤ torn ∧ torn < (D.W.length : Int) → 0 ≤ at_ ∧ at_ ≤ 256) :
    Calls Tryz.prog 8 #[Ptr pp, .agg (act11 6 no off z fa fn fc c ka kn kc torn at_)] w (PDo11 w0 pp (n + 1)) := by
  obtain ⟨ab, hab⟩ : ∃ ab, ab = w.heap.size := ⟨_, rfl⟩
  obtain ⟨wd, hwd⟩ : ∃ wd, wd = w.alloc (AB11 6 no off z fa fn fc c ka kn kc torn at_) := ⟨_, rfl⟩
  have HP := hid (show PwE w0 wd [(ab, AB11 6 no off z fa fn fc c ka kn kc torn at_), (pp, PB11 d r (Ptr p) (Ptr q))] p d q r s s D D n (11 * n) by rw [hwd, hab]; exact h.more ((Touch.refl _ w).alloc _) w.heap.size _ (heap_alloc_new w _) (Nat.le_refl _))
  have HPP := hid hpp
  have HN := hid (And.intro hnl (And.intro hs8 hn))
  have HG := hid h.facts
  have HPx := hid (HP.out.other (pp, PB11 d r (Ptr p) (Ptr q)) (List.mem_cons_of_mem _ List.mem_cons_self))
  have HAx := hid (HP.out.other (ab, AB11 6 no off z fa fn fc c ka kn kc torn at_) List.mem_cons_self)
  have hl9 : s.L.length ≤ 10000 := by have := HG.out.1.len; have := HG.out.2.1.mo2; omega
  have e0 : (w.alloc (AB11 6 no off z fa fn fc c ka kn kc torn at_)).cell? ⟨w.heap.size, 0, none⟩ = some (.int .i64 6) := cellOf (heap_alloc_new w _) 0
  have hW : D.W.length ≤ 800 := by have := HG.out.2.2.1.waits; omega
  have HL1 := hid (show Calls Tryz.prog 31 #[Ptr d, .agg #[.slice ka kn kc, .int .i64 torn, .int .i64 at_]] wd.drew (PLoU wd.drew (D.lost ks torn at_)) by
    obtain ⟨OL, OD, OQ, OR, hh⟩ := HP.out.adds (Touch.refl _ wd).drew
    exact do_lose hh.wl.disk (by omega) HG.out.2.2.1.size ka kn kc ks hkn torn at_ (hks.adds hh.wl.adds) hk64 hat)
  have HL2 := hid (fun w2 (hA : Adds wd w2) => show Calls Tryz.prog 32 #[Ptr r, .agg #[.slice ka kn kc, .int .i64 torn, .int .i64 at_]] w2 (fun e w' => ∃ p, e = .returned (.tuple #[Ptr p, .int .i64 0]) ∧ Hid (∃ OR, IsRO w' OR p (D.lost ks torn at_) ∧ (∀ k, OR k → w2.heap.size ≤ k ∧ k < w'.heap.size) ∧ Adds w2 w')) by
    obtain ⟨OL, OD, OQ, OR, hh⟩ := HP.out.adds hA
    obtain ⟨hv, wv, hd, _⟩ := hh.ro
    rw [← hkn]
    exact (rlose_fresh r hv wv D ka kc ks torn at_ w2 hd (by omega) (hks.adds hh.wl.adds) (by omega) hat))
  have HOk := hid (show F.openOk (D.lost ks torn at_) s.fr s.ct s.mo = true by
    have h1 := HG.out.2.1
    have := h1.fr0
    have := h1.ct1
    have := h1.fit
    have := h1.size
    have := h1.mo1
    have := h1.mo2
    unfold F.openOk
    rw [decide_eq_true_iff]
    show 0 ≤ s.fr ∧ 1 ≤ s.ct ∧ s.ct ≤ 4096 ∧ s.fr + s.ct ≤ D.size ∧ 1 ≤ s.mo ∧ s.mo ≤ 256
    omega)
  have HDk := hid (lost_ok11 HG.out.2.2.1 ks torn at_)
  obtain ⟨lv, hqb⟩ := HP.out.qbox
  have HQB := hid hqb
  have HQP := hid (show q ≠ pp from type_ne hqb HPx.out (by decide))
  obtain ⟨fr, hfr⟩ : ∃ fr, fr = s.fr := ⟨_, rfl⟩
  obtain ⟨ct, hct⟩ : ∃ ct, ct = s.ct := ⟨_, rfl⟩
  obtain ⟨mo, hmo⟩ : ∃ mo, mo = s.mo := ⟨_, rfl⟩
  have HFr := hid (show fr ≤ 9223372036854775807 by rw [hfr]; have h1 := HG.out.2.1; have := h1.fit; have := h1.size; have := h1.ct1; omega)
  rw [← hfr, ← hct, ← hmo] at HOk
  have HQB : Hid (wd.heap[q]? = some (.cells #[Ptr r, .int .i64 fr, .int .i64 ct, .int .i64 mo, lv] 79 (0, 0))) := by rw [hfr, hct, hmo]; exact HQB.out
  clear h hpp hnl hs8 hn hl9 hqb hks hat hkn hk64 hW hfr hct hmo
  go_enter Tryz.func8, Tryz.ntmps8
  go_upto_region 31 with fail
  rw [← hab, ← hwd]
  clear hab hwd e0
  refine H_begin (S := fun w' : World => Adds wd w') (by kernel_rfl) ?_
  have hS : (fun w' : World => Adds wd w') wd.drew := (Touch.refl _ wd).drew
  refine H_put (i := 0) 156 (v := Ptr pp) rfl rfl (by kernel_rfl) (by kernel_rfl) (by kernel_rfl) (fun _ _ _ h => h) (Or.inl ⟨by rfl, fun w' hw' => ?_⟩) hS ?_
  · go_simp
  simp only [Act.put, List.setIfInBounds_toArray, List.set_cons_zero, List.set_cons_succ]
  refine H_put (i := 1) 157 (v := Ptr pp) rfl rfl (by kernel_rfl) (by kernel_rfl) (by kernel_rfl) (fun _ _ _ h => h) (Or.inl ⟨by rfl, fun w' hw' => ?_⟩) hS ?_
  · go_simp
  simp only [Act.put, List.setIfInBounds_toArray, List.set_cons_zero, List.set_cons_succ]
  refine H_put (i := 2) 158 (v := .pointer (some ⟨pp, 0, none⟩)) rfl rfl (by kernel_rfl) (by kernel_rfl) (by kernel_rfl) (fun _ _ _ h => h) (Or.inl ⟨by rfl, fun w' hw' => ?_⟩) hS ?_
  · go_simp
  simp only [Act.put, List.setIfInBounds_toArray, List.set_cons_zero, List.set_cons_succ]
  refine H_put (i := 3) 159 (v := Ptr d) rfl rfl (by kernel_rfl) (by kernel_rfl) (by kernel_rfl) (fun _ _ _ h => h) (Or.inl ⟨by rfl, fun w' hw' => ?_⟩) hS ?_
  · have c : w'.cell? ⟨pp, 0, none⟩ = some (Ptr d) := cellOf ((hw').at' HPx.out id) 0; go_simp
  simp only [Act.put, List.setIfInBounds_toArray, List.set_cons_zero, List.set_cons_succ]
  refine H_put (i := 4) 160 (v := .pointer (some ⟨ab, 6, none⟩)) rfl rfl (by kernel_rfl) (by kernel_rfl) (by kernel_rfl) (fun _ _ _ h => h) (Or.inl ⟨by rfl, fun w' hw' => ?_⟩) hS ?_
  · go_simp
  simp only [Act.put, List.setIfInBounds_toArray, List.set_cons_zero, List.set_cons_succ]
  refine H_put (i := 5) 161 (v := .agg #[.slice ka kn kc, .int .i64 torn, .int .i64 at_]) rfl rfl (by kernel_rfl) (by kernel_rfl) (by kernel_rfl) (fun _ _ _ h => h) (Or.inl ⟨by rfl, fun w' hw' => ?_⟩) hS ?_
  · have hbx := (hw').at' HAx.out id; have c6 : w'.cell? ⟨ab, 6, none⟩ = some (.slice ka kn kc) := cellOf hbx 6; have c7 : w'.cell? ⟨ab, 7, none⟩ = some (.int .i64 torn) := cellOf hbx 7; have c8 : w'.cell? ⟨ab, 8, none⟩ = some (.int .i64 at_) := cellOf hbx 8; go_simp
  simp only [Act.put, List.setIfInBounds_toArray, List.set_cons_zero, List.set_cons_succ]
  refine H_call (i := 6) 162 31 #[Ptr d, .agg #[.slice ka kn kc, .int .i64 torn, .int .i64 at_]] (by kernel_rfl) rfl rfl (by rfl) (by go_simp) (HL1.out) ?_
  rintro e w2 ⟨d2, rfl, H2⟩
  have HA2 := hid (show Adds wd w2 by obtain ⟨_, _, _, hA⟩ := H2.out; exact (Touch.refl _ wd).drew.trans hA)
  have hS2 : (fun w' : World => Adds wd w') _ := HA2.out
  refine ⟨_, _, rfl, hS2, fun w' h => h, ?_⟩
  clear hS; have hS := hS2; clear hS2
  simp only [Act.put, List.setIfInBounds_toArray, List.set_cons_zero, List.set_cons_succ]
  refine H_put (i := 7) 155 (v := .tuple #[Ptr d2, .int .i64 0]) rfl rfl (by kernel_rfl) (by kernel_rfl) (by kernel_rfl) (fun _ _ _ h => h) (Or.inl ⟨by rfl, fun w' hw' => ?_⟩) hS ?_
  · go_simp
  simp only [Act.put, List.setIfInBounds_toArray, List.set_cons_zero, List.set_cons_succ]
  refine H_put (i := 8) 163 (v := Ptr d2) rfl rfl (by kernel_rfl) (by kernel_rfl) (by kernel_rfl) (fun _ _ _ h => h) (Or.inl ⟨by rfl, fun w' hw' => ?_⟩) hS ?_
  · go_simp
  simp only [Act.put, List.setIfInBounds_toArray, List.set_cons_zero, List.set_cons_succ]
  refine H_put (i := 9) 164 (v := .int .i64 0) rfl rfl (by kernel_rfl) (by kernel_rfl) (by kernel_rfl) (fun _ _ _ h => h) (Or.inl ⟨by rfl, fun w' hw' => ?_⟩) hS ?_
  · go_simp
  simp only [Act.put, List.setIfInBounds_toArray, List.set_cons_zero, List.set_cons_succ]
  refine H_put (i := 10) 15 (v := Ptr d2) rfl rfl (by kernel_rfl) (by kernel_rfl) (by kernel_rfl) (fun _ _ _ h => h) (Or.inl ⟨by rfl, fun w' hw' => ?_⟩) hS ?_
  · go_simp
  simp only [Act.put, List.setIfInBounds_toArray, List.set_cons_zero, List.set_cons_succ]
  refine H_put (i := 11) 16 (v := .int .i64 0) rfl rfl (by kernel_rfl) (by kernel_rfl) (by kernel_rfl) (fun _ _ _ h => h) (Or.inl ⟨by rfl, fun w' hw' => ?_⟩) hS ?_
  · go_simp
  simp only [Act.put, List.setIfInBounds_toArray, List.set_cons_zero, List.set_cons_succ]
  refine wpAnyH_done (by kernel_rfl) ?_ _
  clear hS
  have HPx2 := hid (HA2.out.at' HPx.out id)
  have HAx2 := hid (HA2.out.at' HAx.out id)
  go_upto_region 32 with fail
  refine H_begin (S := fun w' : World => Adds w2 w') (by kernel_rfl) ?_
  have hS : (fun w' : World => Adds w2 w') w2.drew := (Touch.refl _ w2).drew
  refine H_put (i := 0) 166 (v := Ptr pp) rfl rfl (by kernel_rfl) (by kernel_rfl) (by kernel_rfl) (fun _ _ _ h => h) (Or.inl ⟨by rfl, fun w' hw' => ?_⟩) hS ?_
  · go_simp
  simp only [Act.put, List.setIfInBounds_toArray, List.set_cons_zero, List.set_cons_succ]
  refine H_put (i := 1) 167 (v := Ptr pp) rfl rfl (by kernel_rfl) (by kernel_rfl) (by kernel_rfl) (fun _ _ _ h => h) (Or.inl ⟨by rfl, fun w' hw' => ?_⟩) hS ?_
  · go_simp
  simp only [Act.put, List.setIfInBounds_toArray, List.set_cons_zero, List.set_cons_succ]
  refine H_put (i := 2) 168 (v := .pointer (some ⟨pp, 1, none⟩)) rfl rfl (by kernel_rfl) (by kernel_rfl) (by kernel_rfl) (fun _ _ _ h => h) (Or.inl ⟨by rfl, fun w' hw' => ?_⟩) hS ?_
  · go_simp
  simp only [Act.put, List.setIfInBounds_toArray, List.set_cons_zero, List.set_cons_succ]
  refine H_put (i := 3) 169 (v := Ptr r) rfl rfl (by kernel_rfl) (by kernel_rfl) (by kernel_rfl) (fun _ _ _ h => h) (Or.inl ⟨by rfl, fun w' hw' => ?_⟩) hS ?_
  · have c : w'.cell? ⟨pp, 1, none⟩ = some (Ptr r) := cellOf ((hw').at' HPx2.out id) 1; go_simp
  simp only [Act.put, List.setIfInBounds_toArray, List.set_cons_zero, List.set_cons_succ]
  refine H_put (i := 4) 170 (v := .pointer (some ⟨ab, 6, none⟩)) rfl rfl (by kernel_rfl) (by kernel_rfl) (by kernel_rfl) (fun _ _ _ h => h) (Or.inl ⟨by rfl, fun w' hw' => ?_⟩) hS ?_
  · go_simp
  simp only [Act.put, List.setIfInBounds_toArray, List.set_cons_zero, List.set_cons_succ]
  refine H_put (i := 5) 171 (v := .agg #[.slice ka kn kc, .int .i64 torn, .int .i64 at_]) rfl rfl (by kernel_rfl) (by kernel_rfl) (by kernel_rfl) (fun _ _ _ h => h) (Or.inl ⟨by rfl, fun w' hw' => ?_⟩) hS ?_
  · have hbx := (hw').at' HAx2.out id; have c6 : w'.cell? ⟨ab, 6, none⟩ = some (.slice ka kn kc) := cellOf hbx 6; have c7 : w'.cell? ⟨ab, 7, none⟩ = some (.int .i64 torn) := cellOf hbx 7; have c8 : w'.cell? ⟨ab, 8, none⟩ = some (.int .i64 at_) := cellOf hbx 8; go_simp
  simp only [Act.put, List.setIfInBounds_toArray, List.set_cons_zero, List.set_cons_succ]
  refine H_call (i := 6) 172 32 #[Ptr r, .agg #[.slice ka kn kc, .int .i64 torn, .int .i64 at_]] (by kernel_rfl) rfl rfl (by rfl) (by go_simp) (HL2.out w2.drew (HA2.out.trans hS)) ?_
  rintro e w3 ⟨r2, rfl, H3⟩
  have HA3 := hid (show Adds w2 w3 by obtain ⟨_, _, _, hA⟩ := H3.out; exact (Touch.refl _ w2).drew.trans hA)
  have hS2 : (fun w' : World => Adds w2 w') _ := HA3.out
  refine ⟨_, _, rfl, hS2, fun w' h => h, ?_⟩
  clear hS; have hS := hS2; clear hS2
  simp only [Act.put, List.setIfInBounds_toArray, List.set_cons_zero, List.set_cons_succ]
  refine H_put (i := 7) 165 (v := .tuple #[Ptr r2, .int .i64 0]) rfl rfl (by kernel_rfl) (by kernel_rfl) (by kernel_rfl) (fun _ _ _ h => h) (Or.inl ⟨by rfl, fun w' hw' => ?_⟩) hS ?_
  · go_simp
  simp only [Act.put, List.setIfInBounds_toArray, List.set_cons_zero, List.set_cons_succ]
  refine H_put (i := 8) 173 (v := Ptr r2) rfl rfl (by kernel_rfl) (by kernel_rfl) (by kernel_rfl) (fun _ _ _ h => h) (Or.inl ⟨by rfl, fun w' hw' => ?_⟩) hS ?_
  · go_simp
  simp only [Act.put, List.setIfInBounds_toArray, List.set_cons_zero, List.set_cons_succ]
  refine H_put (i := 9) 174 (v := .int .i64 0) rfl rfl (by kernel_rfl) (by kernel_rfl) (by kernel_rfl) (fun _ _ _ h => h) (Or.inl ⟨by rfl, fun w' hw' => ?_⟩) hS ?_
  · go_simp
  simp only [Act.put, List.setIfInBounds_toArray, List.set_cons_zero, List.set_cons_succ]
  refine H_put (i := 10) 17 (v := Ptr r2) rfl rfl (by kernel_rfl) (by kernel_rfl) (by kernel_rfl) (fun _ _ _ h => h) (Or.inl ⟨by rfl, fun w' hw' => ?_⟩) hS ?_
  · go_simp
  simp only [Act.put, List.setIfInBounds_toArray, List.set_cons_zero, List.set_cons_succ]
  refine H_put (i := 11) 18 (v := .int .i64 0) rfl rfl (by kernel_rfl) (by kernel_rfl) (by kernel_rfl) (fun _ _ _ h => h) (Or.inl ⟨by rfl, fun w' hw' => ?_⟩) hS ?_
  · go_simp
  simp only [Act.put, List.setIfInBounds_toArray, List.set_cons_zero, List.set_cons_succ]
  refine wpAnyH_done (by kernel_rfl) ?_ _
  clear hS
  have HA23 := hid (HA2.out.trans HA3.out)
  have HB3 := hid (HA23.out.at' HPx.out id)
  have c03 : w3.cell? ⟨pp, 0, none⟩ = some (Ptr d) := cellOf HB3.out 0
  have f03 : w3.frozen? ⟨pp, 0, none⟩ = false := frozen_of_row w3 pp 0 _ 35 HB3.out
  have c13 : w3.cell? ⟨pp, 1, none⟩ = some (Ptr r) := cellOf HB3.out 1
  have f13 : w3.frozen? ⟨pp, 1, none⟩ = false := frozen_of_row w3 pp 1 _ 35 HB3.out
  go_upto_region 36 with fail
  obtain ⟨w4, hw4⟩ : ∃ w4, w4 = (w3.setCell ⟨pp, 0, none⟩ (Ptr d2)).setCell ⟨pp, 1, none⟩ (Ptr r2) := ⟨_, rfl⟩
  rw [← hw4]
  have hT4 : Touch (fun k => k = pp) w3 w4 := by rw [hw4]; exact Touch.setCell (T := fun k => k = pp) (Touch.setCell (T := fun k => k = pp) (Touch.refl _ w3) (p := ⟨pp, 0, none⟩) (fun _ => rfl) _) (p := ⟨pp, 1, none⟩) (fun _ => rfl) _
  have HB4 := hid (show w4.heap[pp]? = some (PB11 d2 r2 (Ptr p) (Ptr q)) by rw [hw4]; exact heap_setCell_same _ pp 1 _ 35 _ (heap_setCell_same w3 pp 0 _ 35 _ HB3.out))
  have HQ4 := hid (hT4.at' (HA23.out.at' HQB.out id) HQP.out)
  have HD4 := hid ((((HP.out.adds (Touch.refl _ wd).drew).lost H2.out (by obtain ⟨OR, b1, b2, b3⟩ := H3.out; exact ⟨OR, b1, b2, (Touch.refl _ w2).drew.trans b3⟩)).box (List.mem_cons_of_mem _ List.mem_cons_self) hT4 HPP.out HB4.out))
  have HO := hid (p11_open (w := w4.drew) (by obtain ⟨OD, OR, h⟩ := HD4.out; exact ⟨OD, OR, h.adds (Touch.refl _ w4).drew⟩) HPP.out (fun x hx => (by cases hx)) HDk.out (show D.size ≤ 4096 by have := HN.out.2.1; omega) HG.out.2.2.2 fr ct mo HFr.out)
  clear hw4 hT4 c03 c13 f03 f13
  refine Pc_begin (S := fun w' : World => Adds w4 w') (Xs := [22, 23]) (by kernel_rfl) ?_
  have hS : (fun w' : World => Adds w4 w') w4.drew := (Touch.refl _ w4).drew
  refine Pc_put (i := 0) 193 [22, 23] (v := Ptr pp) rfl rfl (by kernel_rfl) (by kernel_rfl) (by kernel_rfl) (by kernel_rfl) (fun _ _ _ h => h) (Or.inl ⟨by rfl, fun w' hw' => ?_⟩) hS ?_
  · go_simp
  simp only [Act.put, List.setIfInBounds_toArray, List.set_cons_zero, List.set_cons_succ]
  refine Pc_put (i := 1) 194 [2, 3, 4, 5, 6, 7, 22, 23] (v := Ptr pp) rfl rfl (by kernel_rfl) (by kernel_rfl) (by kernel_rfl) (by kernel_rfl) (fun _ _ _ h => h) (Or.inl ⟨by rfl, fun w' hw' => ?_⟩) hS ?_
  · go_simp
  simp only [Act.put, List.setIfInBounds_toArray, List.set_cons_zero, List.set_cons_succ]
  refine Pc_put (i := 2) 195 [3, 4, 5, 6, 7, 22, 23] (v := Ptr pp) rfl rfl (by kernel_rfl) (by kernel_rfl) (by kernel_rfl) (by kernel_rfl) (fun _ _ _ h => h) (Or.inl ⟨by rfl, fun w' hw' => ?_⟩) hS ?_
  · go_simp
  simp only [Act.put, List.setIfInBounds_toArray, List.set_cons_zero, List.set_cons_succ]
  refine Pc_put (i := 3) 196 [4, 5, 6, 7, 22, 23] (v := .pointer (some ⟨pp, 3, none⟩)) rfl rfl (by kernel_rfl) (by kernel_rfl) (by kernel_rfl) (by kernel_rfl) (fun _ _ _ h => h) (Or.inl ⟨by rfl, fun w' hw' => ?_⟩) hS ?_
  · go_simp
  simp only [Act.put, List.setIfInBounds_toArray, List.set_cons_zero, List.set_cons_succ]
  refine Pc_put (i := 4) 197 [5, 6, 7, 22, 23] (v := Ptr q) rfl rfl (by kernel_rfl) (by kernel_rfl) (by kernel_rfl) (by kernel_rfl) (fun _ _ _ h => h) (Or.inl ⟨by rfl, fun w' hw' => ?_⟩) hS ?_
  · have c : w'.cell? ⟨pp, 3, none⟩ = some (Ptr q) := cellOf ((hw').at' HB4.out id) 3; go_simp
  simp only [Act.put, List.setIfInBounds_toArray, List.set_cons_zero, List.set_cons_succ]
  refine Pc_put (i := 5) 198 [6, 7, 22, 23] (v := Ptr q) rfl rfl (by kernel_rfl) (by kernel_rfl) (by kernel_rfl) (by kernel_rfl) (fun _ _ _ h => h) (Or.inl ⟨by rfl, fun w' hw' => ?_⟩) hS ?_
  · go_simp
  simp only [Act.put, List.setIfInBounds_toArray, List.set_cons_zero, List.set_cons_succ]
  refine Pc_put (i := 6) 199 [7, 22, 23] (v := .pointer (some ⟨q, 1, none⟩)) rfl rfl (by kernel_rfl) (by kernel_rfl) (by kernel_rfl) (by kernel_rfl) (fun _ _ _ h => h) (Or.inl ⟨by rfl, fun w' hw' => ?_⟩) hS ?_
  · go_simp
  simp only [Act.put, List.setIfInBounds_toArray, List.set_cons_zero, List.set_cons_succ]
  refine Pc_put (i := 7) 200 [22, 23] (v := .int .i64 fr) rfl rfl (by kernel_rfl) (by kernel_rfl) (by kernel_rfl) (by kernel_rfl) (fun _ _ _ h => h) (Or.inl ⟨by rfl, fun w' hw' => ?_⟩) hS ?_
  · have c : w'.cell? ⟨q, 1, none⟩ = some (.int .i64 fr) := cellOf ((hw').at' HQ4.out id) 1; go_simp
  simp only [Act.put, List.setIfInBounds_toArray, List.set_cons_zero, List.set_cons_succ]
  refine Pc_put (i := 8) 201 [9, 10, 11, 12, 13, 14, 22, 23] (v := Ptr pp) rfl rfl (by kernel_rfl) (by kernel_rfl) (by kernel_rfl) (by kernel_rfl) (fun _ _ _ h => h) (Or.inl ⟨by rfl, fun w' hw' => ?_⟩) hS ?_
  · go_simp
  simp only [Act.put, List.setIfInBounds_toArray, List.set_cons_zero, List.set_cons_succ]
  refine Pc_put (i := 9) 202 [10, 11, 12, 13, 14, 22, 23] (v := Ptr pp) rfl rfl (by kernel_rfl) (by kernel_rfl) (by kernel_rfl) (by kernel_rfl) (fun _ _ _ h => h) (Or.inl ⟨by rfl, fun w' hw' => ?_⟩) hS ?_
  · go_simp
  simp only [Act.put, List.setIfInBounds_toArray, List.set_cons_zero, List.set_cons_succ]
  refine Pc_put (i := 10) 203 [11, 12, 13, 14, 22, 23] (v := .pointer (some ⟨pp, 3, none⟩)) rfl rfl (by kernel_rfl) (by kernel_rfl) (by kernel_rfl) (by kernel_rfl) (fun _ _ _ h => h) (Or.inl ⟨by rfl, fun w' hw' => ?_⟩) hS ?_
  · go_simp
  simp only [Act.put, List.setIfInBounds_toArray, List.set_cons_zero, List.set_cons_succ]
  refine Pc_put (i := 11) 204 [12, 13, 14, 22, 23] (v := Ptr q) rfl rfl (by kernel_rfl) (by kernel_rfl) (by kernel_rfl) (by kernel_rfl) (fun _ _ _ h => h) (Or.inl ⟨by rfl, fun w' hw' => ?_⟩) hS ?_
  · have c : w'.cell? ⟨pp, 3, none⟩ = some (Ptr q) := cellOf ((hw').at' HB4.out id) 3; go_simp
  simp only [Act.put, List.setIfInBounds_toArray, List.set_cons_zero, List.set_cons_succ]
  refine Pc_put (i := 12) 205 [13, 14, 22, 23] (v := Ptr q) rfl rfl (by kernel_rfl) (by kernel_rfl) (by kernel_rfl) (by kernel_rfl) (fun _ _ _ h => h) (Or.inl ⟨by rfl, fun w' hw' => ?_⟩) hS ?_
  · go_simp
  simp only [Act.put, List.setIfInBounds_toArray, List.set_cons_zero, List.set_cons_succ]
  refine Pc_put (i := 13) 206 [14, 22, 23] (v := .pointer (some ⟨q, 2, none⟩)) rfl rfl (by kernel_rfl) (by kernel_rfl) (by kernel_rfl) (by kernel_rfl) (fun _ _ _ h => h) (Or.inl ⟨by rfl, fun w' hw' => ?_⟩) hS ?_
  · go_simp
  simp only [Act.put, List.setIfInBounds_toArray, List.set_cons_zero, List.set_cons_succ]
  refine Pc_put (i := 14) 207 [22, 23] (v := .int .i64 ct) rfl rfl (by kernel_rfl) (by kernel_rfl) (by kernel_rfl) (by kernel_rfl) (fun _ _ _ h => h) (Or.inl ⟨by rfl, fun w' hw' => ?_⟩) hS ?_
  · have c : w'.cell? ⟨q, 2, none⟩ = some (.int .i64 ct) := cellOf ((hw').at' HQ4.out id) 2; go_simp
  simp only [Act.put, List.setIfInBounds_toArray, List.set_cons_zero, List.set_cons_succ]
  refine Pc_put (i := 15) 208 [16, 17, 18, 19, 20, 21, 22, 23] (v := Ptr pp) rfl rfl (by kernel_rfl) (by kernel_rfl) (by kernel_rfl) (by kernel_rfl) (fun _ _ _ h => h) (Or.inl ⟨by rfl, fun w' hw' => ?_⟩) hS ?_
  · go_simp
  simp only [Act.put, List.setIfInBounds_toArray, List.set_cons_zero, List.set_cons_succ]
  refine Pc_put (i := 16) 209 [17, 18, 19, 20, 21, 22, 23] (v := Ptr pp) rfl rfl (by kernel_rfl) (by kernel_rfl) (by kernel_rfl) (by kernel_rfl) (fun _ _ _ h => h) (Or.inl ⟨by rfl, fun w' hw' => ?_⟩) hS ?_
  · go_simp
  simp only [Act.put, List.setIfInBounds_toArray, List.set_cons_zero, List.set_cons_succ]
  refine Pc_put (i := 17) 210 [18, 19, 20, 21, 22, 23] (v := .pointer (some ⟨pp, 3, none⟩)) rfl rfl (by kernel_rfl) (by kernel_rfl) (by kernel_rfl) (by kernel_rfl) (fun _ _ _ h => h) (Or.inl ⟨by rfl, fun w' hw' => ?_⟩) hS ?_
  · go_simp
  simp only [Act.put, List.setIfInBounds_toArray, List.set_cons_zero, List.set_cons_succ]
  refine Pc_put (i := 18) 211 [19, 20, 21, 22, 23] (v := Ptr q) rfl rfl (by kernel_rfl) (by kernel_rfl) (by kernel_rfl) (by kernel_rfl) (fun _ _ _ h => h) (Or.inl ⟨by rfl, fun w' hw' => ?_⟩) hS ?_
  · have c : w'.cell? ⟨pp, 3, none⟩ = some (Ptr q) := cellOf ((hw').at' HB4.out id) 3; go_simp
  simp only [Act.put, List.setIfInBounds_toArray, List.set_cons_zero, List.set_cons_succ]
  refine Pc_put (i := 19) 212 [20, 21, 22, 23] (v := Ptr q) rfl rfl (by kernel_rfl) (by kernel_rfl) (by kernel_rfl) (by kernel_rfl) (fun _ _ _ h => h) (Or.inl ⟨by rfl, fun w' hw' => ?_⟩) hS ?_
  · go_simp
  simp only [Act.put, List.setIfInBounds_toArray, List.set_cons_zero, List.set_cons_succ]
  refine Pc_put (i := 20) 213 [21, 22, 23] (v := .pointer (some ⟨q, 3, none⟩)) rfl rfl (by kernel_rfl) (by kernel_rfl) (by kernel_rfl) (by kernel_rfl) (fun _ _ _ h => h) (Or.inl ⟨by rfl, fun w' hw' => ?_⟩) hS ?_
  · go_simp
  simp only [Act.put, List.setIfInBounds_toArray, List.set_cons_zero, List.set_cons_succ]
  refine Pc_put (i := 21) 214 [22, 23] (v := .int .i64 mo) rfl rfl (by kernel_rfl) (by kernel_rfl) (by kernel_rfl) (by kernel_rfl) (fun _ _ _ h => h) (Or.inl ⟨by rfl, fun w' hw' => ?_⟩) hS ?_
  · have c : w'.cell? ⟨q, 3, none⟩ = some (.int .i64 mo) := cellOf ((hw').at' HQ4.out id) 3; go_simp
  simp only [Act.put, List.setIfInBounds_toArray, List.set_cons_zero, List.set_cons_succ]
  refine Pc_call (i := 22) 215 7 #[Ptr pp, .int .i64 fr, .int .i64 ct, .int .i64 mo] (by kernel_rfl) rfl rfl (by rfl) (by go_simp) HO.out ?_
  rintro e w9 ⟨rfl, H9⟩
  refine ⟨_, rfl, fun c => absurd (by decide) c, ?_⟩
  simp only [Act.put, List.setIfInBounds_toArray, List.set_cons_zero, List.set_cons_succ]
  refine Pc_do (i := 23) (some 4) (by kernel_rfl) rfl rfl rfl (fun K hK => ?_)
  go_simp
  refine hK (.bool true) _ (fun c => absurd (by decide) c) ?_
  clear hK K
  simp only [Act.put, List.setIfInBounds_toArray, List.set_cons_zero, List.set_cons_succ]
  refine Pc_done (by kernel_rfl) ?_ _
  clear hS
  go_wp2_with fail
  go_ret
  refine ⟨rfl, ?_⟩
  rcases H9.out with ⟨hno, _⟩ | ⟨hok, l2, q2, h2⟩
  · rw [HOk.out] at hno; cases hno
  · exact ⟨l2, d2, q2, r2, _, _, h2.later (by omega) (by omega), fun f hf => (by cases hf), HN.out.2.1⟩
end Go.Proofs.YtjbdchgadfhffaaGreatDoor

/- Acts of a pair of pools: Get. -/
namespace Go.Proofs.YtjbdchgadfhffaaGreatDoor
open Go.RowKit
set_option maxRecDepth 100000 in
theorem getB_len {s : F.Po} (hg : F.Good s) (D : dSt) (no : Int) : (F.getB s D no).length ≤ 256 := by
  unfold F.getB
  split
  · rename_i h
    have h1 := hg.get D no
    unfold F.getS at h1
    rw [if_pos h] at h1
    obtain ⟨p, hR, _⟩ := h1.pgs (F.getF s D no) (by unfold F.held; simp)
    have := (M.read_ok hR).2.1
    omega
  · simp
set_option maxRecDepth 100000 in
/-- Bytes that nobody owns turn. -/
theorem PwE.bytes {w0 w wr : World} {X Y : List (Nat × Obj)} {p d q r : Nat} {s s' : F.Po} {D D' : dSt} {n k : Nat} {T : Nat → Prop} (h : PwE w0 w (Y ++ X) p d q r s s' D D' n k) (hT : TrnB T w wr) (hY : ∀ b, T b → (∃ y ∈ Y, y.1 = b) ∧ w0.heap.size ≤ b) (hX : ∀ x ∈ X, ¬ T x.1) : PwE w0 wr X p d q r s s' D D' n k := by
  refine h.turn hT.1 (fun j c => ?_) (fun y hy => ⟨⟨y, List.mem_append_right _ hy, rfl⟩, ?_⟩)
  · obtain ⟨⟨y, hy, e⟩, h2⟩ := hY j c
    exact ⟨⟨y, List.mem_append_left _ hy, e⟩, h2⟩
  · exact hT.1.at' (h.other y (List.mem_append_right _ hy)) (hX y hy)
/-- What the program's Get tells: bytes in a block Y of their own, which is none of X. -/
def PGw2 (w0 : World) (X : List (Nat × Obj)) (p d q r : Nat) (s s' : F.Po) (D D' : dSt) (n k z : Nat) (bs : List UInt8) (e : Ending) (w' : World) : Prop := ∃ a m cap, e = .returned (.tuple #[.slice a m cap, .int .i64 (z : Int)]) ∧ Hid (m = bs.length ∧ At w' a bs ∧ (∀ j, j < m → ∃ b o, a = some ⟨b, o, none⟩ ∧ w'.frozen? ⟨b, o + j, none⟩ = false) ∧ ∃ Y : List (Nat × Obj), PwE w0 w' (Y ++ X) p d q r s s' D D' n k ∧ ∀ b o, a = some ⟨b, o, none⟩ → ((∃ y ∈ Y, y.1 = b) ∧ w0.heap.size ≤ b) ∧ ∀ x ∈ X, x.1 ≠ b)
set_option maxRecDepth 100000 in
theorem pw_get2 {w0 w : World} {X : List (Nat × Obj)} {p d q r : Nat} {s s' : F.Po} {D D' : dSt} {n k : Nat} (h : PwE w0 w X p d q r s s' D D' n k) (hn : n + 1 ≤ 1000000) (hk9 : k ≤ 900) (no : Int) : Calls Tryz.prog 14 #[Ptr p, .int .i64 no] w (PGw2 w0 X p d q r (F.getS s D no) s' D D' (n + 1) k (F.getE s D no) (F.getB s D no)) := by
  obtain ⟨O, OD, OQ, OR, h⟩ := h
  refine (bget_any h.wl.pool hn (fun j c => h.wl.lt j (.inl c)) h.wl.disk h.wl.ok hk9 h.wl.pok h.wl.tabs no).mono ?_
  rintro e w' ⟨v, rfl, H⟩
  obtain ⟨h0, O', h1, h2, h3, h4⟩ := H.out
  have hl := h.wl.moved h1 h2 h3 (h.wl.good.get D no) (h.wl.pok.same (F.get_same s D no) rfl)
  have hP := h.prog0 hl (h2.mono (fun _ _ c => .inl c)) (fun j c => c.elim (fun c => (h3 j c).elim (fun c => .inl (.inl c)) (fun c => .inr c.1)) (fun c => .inl (.inr c)))
  have hz0 := h.wl.adds.size
  obtain ⟨a, cap, rfl⟩ := row_form h0
  refine ⟨a, _, cap, rfl, rfl, ?_, fun j hj => ?_, ?_⟩
  · rcases h0.2 with ⟨e, hn⟩ | ⟨g, c2, cur, e, _, hgg, hnc, _⟩
    · rw [List.length_eq_zero_iff.1 hn]; exact At.nil _ _
    · cases e
      exact At.own h0
  · rcases h0.2 with ⟨e, hn⟩ | ⟨g, c2, cur, e, _, hgg, hnc, _⟩
    · omega
    · cases e
      exact ⟨g, 0, rfl, by rw [Nat.zero_add]; exact h0.frozenAt j⟩
  · rcases h0.2 with ⟨e, hn⟩ | ⟨g, c2, cur, e, hlow, hgg, hnc, _⟩
    · obtain rfl : a = none := by injection e
      exact ⟨[], ⟨O', OD, OQ, OR, hP⟩, fun b o e => (by cases e)⟩
    · cases e
      obtain ⟨cu, hcu⟩ := own_type h0 rfl
      have hgl := (row_low h0 rfl).1
      refine ⟨[(g, .cells cu 5 (0, 0))], ⟨O', OD, OQ, OR, hP.wl, hP.isq, hP.ro, hP.apq, hP.ap, hP.low, hP.lt, fun x hx => ?_⟩, fun b o e => ?_⟩
      · rcases List.mem_append.1 hx with hx | hx
        · obtain rfl := List.mem_singleton.1 hx
          refine ⟨hcu, fun c => ?_⟩
          rcases c with (c | c) | c
          · exact h4 g rfl c
          · have := h.wl.lt g (.inr c); omega
          · have := h.lt g c; omega
        · exact hP.oth x hx
      · cases e
        exact ⟨⟨⟨_, List.mem_singleton_self _, rfl⟩, by omega⟩, fun x hx c => by have := h.olt hx; omega⟩
set_option maxRecDepth 100000 in
set_option maxHeartbeats 4000000 in
theorem does11_get {w0 w : World} {pp p d q r n : Nat} {s : F.Po} {D : dSt} (h : PwE w0 w [(pp, PB11 d r (Ptr p) (Ptr q))] p d q r s s D D n (11 * n)) (hpp : w0.heap.size ≤ pp) (hnl : F.Nil s) (hs8 : D.size ≤ 8) (hn : n ≤ 30) (no off z : Int) (fa : Option Addr) (fn fc : Nat) (c : UInt8) (ka : Option Addr) (kn kc : Nat) (torn at_ : Int) :
    Calls Tryz.prog 8 #[Ptr pp, .agg (act11 1 no off z fa fn fc c ka kn kc torn at_)] w (PDo11 w0 pp (n + 1)) := by
  obtain ⟨ab, hab⟩ : ∃ ab, ab = w.heap.size := ⟨_, rfl⟩
  obtain ⟨wd, hwd⟩ : ∃ wd, wd = w.alloc (AB11 1 no off z fa fn fc c ka kn kc torn at_) := ⟨_, rfl⟩
  have HP := hid (show PwE w0 wd [(ab, AB11 1 no off z fa fn fc c ka kn kc torn at_), (pp, PB11 d r (Ptr p) (Ptr q))] p d q r s s D D n (11 * n) by rw [hwd, hab]; exact h.more ((Touch.refl _ w).alloc _) w.heap.size _ (heap_alloc_new w _) (Nat.le_refl _))
  have HPP := hid hpp
  have HN := hid (And.intro hnl (And.intro hs8 hn))
  have HG := hid h.facts
  have HPx := hid (HP.out.other (pp, PB11 d r (Ptr p) (Ptr q)) (List.mem_cons_of_mem _ List.mem_cons_self))
  have HAx := hid (HP.out.other (ab, AB11 1 no off z fa fn fc c ka kn kc torn at_) List.mem_cons_self)
  have hl9 : s.L.length ≤ 10000 := by have := HG.out.1.len; have := HG.out.2.1.mo2; omega
  have e0 : (w.alloc (AB11 1 no off z fa fn fc c ka kn kc torn at_)).cell? ⟨w.heap.size, 0, none⟩ = some (.int .i64 1) := cellOf (heap_alloc_new w _) 0
  obtain ⟨zz, hzz⟩ : ∃ zz : Int, zz = (F.getE s D no : Int) := ⟨_, rfl⟩
  obtain ⟨bs, hbs⟩ : ∃ bs, bs = F.getB s D no := ⟨_, rfl⟩
  have HB256 := hid (show bs.length ≤ 256 by rw [hbs]; exact getB_len HG.out.1 D no)
  have HC1 := hid (show Calls Tryz.prog 14 #[Ptr p, .int .i64 no] wd.drew (fun e w' => ∃ a m cap, e = .returned (.tuple #[.slice a m cap, .int .i64 zz]) ∧ Hid (m = bs.length ∧ At w' a bs ∧ (∀ j, j < m → ∃ b o, a = some ⟨b, o, none⟩ ∧ w'.frozen? ⟨b, o + j, none⟩ = false) ∧ ∃ Y : List (Nat × Obj), PwE w0 w' (Y ++ [(ab, AB11 1 no off z fa fn fc c ka kn kc torn at_), (pp, PB11 d r (Ptr p) (Ptr q))]) p d q r (F.getS s D no) s D D (n + 1) (11 * n) ∧ ∀ b o, a = some ⟨b, o, none⟩ → ((∃ y ∈ Y, y.1 = b) ∧ w0.heap.size ≤ b) ∧ ∀ x ∈ [(ab, AB11 1 no off z fa fn fc c ka kn kc torn at_), (pp, PB11 d r (Ptr p) (Ptr q))], x.1 ≠ b)) by rw [hzz, hbs]; exact pw_get2 (HP.out.adds (Touch.refl _ wd).drew) (by omega) (by omega) no)
  have HC2 := hid (fun (w2 : World) (Y : List (Nat × Obj)) (h2 : PwE w0 w2 (Y ++ [(ab, AB11 1 no off z fa fn fc c ka kn kc torn at_), (pp, PB11 d r (Ptr p) (Ptr q))]) p d q r (F.getS s D no) s D D (n + 1) (11 * n)) => show Calls Tryz.prog 24 #[Ptr q, .int .i64 no] w2 (PPw w0 (Y ++ [(ab, AB11 1 no off z fa fn fc c ka kn kc torn at_), (pp, PB11 d r (Ptr p) (Ptr q))]) p d q r (F.getS s D no) (F.getS s D no) D D (n + 1) (11 * n) (.tuple #[.string ⟨bs.toArray⟩, .int .i64 zz])) by rw [hzz, hbs]; exact pq_get h2 HG.out.2.2.1 (by omega) HG.out.2.1 HG.out.1 no)
  clear hzz hbs
  clear h hpp hnl hs8 hn hl9
  go_enter Tryz.func8, Tryz.ntmps8
  go_upto_region 13 with fail
  rw [← hab, ← hwd]
  clear hab hwd e0
  refine H_begin (S := fun w' : World => w'.heap[pp]? = some (PB11 d r (Ptr p) (Ptr q)) ∧ w'.heap[ab]? = some (AB11 1 no off z fa fn fc c ka kn kc torn at_)) (by kernel_rfl) ?_
  have hS : (fun w' : World => w'.heap[pp]? = some (PB11 d r (Ptr p) (Ptr q)) ∧ w'.heap[ab]? = some (AB11 1 no off z fa fn fc c ka kn kc torn at_)) wd.drew := ⟨HPx.out, HAx.out⟩
  refine H_put (i := 0) 56 (v := Ptr pp) rfl rfl (by kernel_rfl) (by kernel_rfl) (by kernel_rfl) (fun _ _ _ h => h) (Or.inl ⟨by rfl, fun w' hw' => ?_⟩) hS ?_
  · go_simp
  simp only [Act.put, List.setIfInBounds_toArray, List.set_cons_zero, List.set_cons_succ]
  refine H_put (i := 1) 57 (v := Ptr pp) rfl rfl (by kernel_rfl) (by kernel_rfl) (by kernel_rfl) (fun _ _ _ h => h) (Or.inl ⟨by rfl, fun w' hw' => ?_⟩) hS ?_
  · go_simp
  simp only [Act.put, List.setIfInBounds_toArray, List.set_cons_zero, List.set_cons_succ]
  refine H_put (i := 2) 58 (v := .pointer (some ⟨pp, 2, none⟩)) rfl rfl (by kernel_rfl) (by kernel_rfl) (by kernel_rfl) (fun _ _ _ h => h) (Or.inl ⟨by rfl, fun w' hw' => ?_⟩) hS ?_
  · go_simp
  simp only [Act.put, List.setIfInBounds_toArray, List.set_cons_zero, List.set_cons_succ]
  refine H_put (i := 3) 59 (v := Ptr p) rfl rfl (by kernel_rfl) (by kernel_rfl) (by kernel_rfl) (fun _ _ _ h => h) (Or.inl ⟨by rfl, fun w' hw' => ?_⟩) hS ?_
  · have c : w'.cell? ⟨pp, 2, none⟩ = some (Ptr p) := cellOf hw'.1 2; go_simp
  simp only [Act.put, List.setIfInBounds_toArray, List.set_cons_zero, List.set_cons_succ]
  refine H_put (i := 4) 60 (v := .pointer (some ⟨ab, 1, none⟩)) rfl rfl (by kernel_rfl) (by kernel_rfl) (by kernel_rfl) (fun _ _ _ h => h) (Or.inl ⟨by rfl, fun w' hw' => ?_⟩) hS ?_
  · go_simp
  simp only [Act.put, List.setIfInBounds_toArray, List.set_cons_zero, List.set_cons_succ]
  refine H_put (i := 5) 61 (v := .int .i64 no) rfl rfl (by kernel_rfl) (by kernel_rfl) (by kernel_rfl) (fun _ _ _ h => h) (Or.inl ⟨by rfl, fun w' hw' => ?_⟩) hS ?_
  · have c : w'.cell? ⟨ab, 1, none⟩ = some (.int .i64 no) := cellOf hw'.2 1; go_simp
  simp only [Act.put, List.setIfInBounds_toArray, List.set_cons_zero, List.set_cons_succ]
  refine H_call (i := 6) 62 14 #[Ptr p, .int .i64 no] (by kernel_rfl) rfl rfl (by rfl) (by go_simp) (HC1.out) ?_
  rintro e w2 ⟨a1, m1, k1, rfl, H2⟩
  obtain ⟨hm, hAt, hFz, Y, hPw, hYb⟩ := H2.out
  have HY := hid hPw
  have hS2 : (fun w' : World => w'.heap[pp]? = some (PB11 d r (Ptr p) (Ptr q)) ∧ w'.heap[ab]? = some (AB11 1 no off z fa fn fc c ka kn kc torn at_)) _ := ⟨HY.out.other (pp, PB11 d r (Ptr p) (Ptr q)) (List.mem_append_right _ (List.mem_cons_of_mem _ List.mem_cons_self)), HY.out.other (ab, AB11 1 no off z fa fn fc c ka kn kc torn at_) (List.mem_append_right _ List.mem_cons_self)⟩
  refine ⟨_, _, rfl, hS2, fun w' h => h, ?_⟩
  clear hS; have hS := hS2; clear hS2
  simp only [Act.put, List.setIfInBounds_toArray, List.set_cons_zero, List.set_cons_succ]
  refine H_put (i := 7) 55 (v := .tuple #[.slice a1 m1 k1, .int .i64 zz]) rfl rfl (by kernel_rfl) (by kernel_rfl) (by kernel_rfl) (fun _ _ _ h => h) (Or.inl ⟨by rfl, fun w' hw' => ?_⟩) hS ?_
  · go_simp
  simp only [Act.put, List.setIfInBounds_toArray, List.set_cons_zero, List.set_cons_succ]
  refine H_put (i := 8) 63 (v := .slice a1 m1 k1) rfl rfl (by kernel_rfl) (by kernel_rfl) (by kernel_rfl) (fun _ _ _ h => h) (Or.inl ⟨by rfl, fun w' hw' => ?_⟩) hS ?_
  · go_simp
  simp only [Act.put, List.setIfInBounds_toArray, List.set_cons_zero, List.set_cons_succ]
  refine H_put (i := 9) 64 (v := .int .i64 zz) rfl rfl (by kernel_rfl) (by kernel_rfl) (by kernel_rfl) (fun _ _ _ h => h) (Or.inl ⟨by rfl, fun w' hw' => ?_⟩) hS ?_
  · go_simp
  simp only [Act.put, List.setIfInBounds_toArray, List.set_cons_zero, List.set_cons_succ]
  refine H_put (i := 10) 9 (v := .slice a1 m1 k1) rfl rfl (by kernel_rfl) (by kernel_rfl) (by kernel_rfl) (fun _ _ _ h => h) (Or.inl ⟨by rfl, fun w' hw' => ?_⟩) hS ?_
  · go_simp
  simp only [Act.put, List.setIfInBounds_toArray, List.set_cons_zero, List.set_cons_succ]
  refine H_put (i := 11) 10 (v := .int .i64 zz) rfl rfl (by kernel_rfl) (by kernel_rfl) (by kernel_rfl) (fun _ _ _ h => h) (Or.inl ⟨by rfl, fun w' hw' => ?_⟩) hS ?_
  · go_simp
  simp only [Act.put, List.setIfInBounds_toArray, List.set_cons_zero, List.set_cons_succ]
  refine wpAnyH_done (by kernel_rfl) ?_ _
  have hm9 : m1 ≤ 256 := by rw [hm]; exact HB256.out
  have HM := hid hm
  have HAt := hid hAt
  have HFz := hid hFz
  have HYb := hid hYb
  clear hS hm hAt hFz hYb hPw H2
  go_upto_region 14 with fail
  refine H_begin (S := fun w' : World => w'.heap[pp]? = some (PB11 d r (Ptr p) (Ptr q)) ∧ w'.heap[ab]? = some (AB11 1 no off z fa fn fc c ka kn kc torn at_)) (by kernel_rfl) ?_
  have hS : (fun w' : World => w'.heap[pp]? = some (PB11 d r (Ptr p) (Ptr q)) ∧ w'.heap[ab]? = some (AB11 1 no off z fa fn fc c ka kn kc torn at_)) w2.drew := ⟨HY.out.other (pp, PB11 d r (Ptr p) (Ptr q)) (List.mem_append_right _ (List.mem_cons_of_mem _ List.mem_cons_self)), HY.out.other (ab, AB11 1 no off z fa fn fc c ka kn kc torn at_) (List.mem_append_right _ List.mem_cons_self)⟩
  refine H_put (i := 0) 66 (v := Ptr pp) rfl rfl (by kernel_rfl) (by kernel_rfl) (by kernel_rfl) (fun _ _ _ h => h) (Or.inl ⟨by rfl, fun w' hw' => ?_⟩) hS ?_
  · go_simp
  simp only [Act.put, List.setIfInBounds_toArray, List.set_cons_zero, List.set_cons_succ]
  refine H_put (i := 1) 67 (v := Ptr pp) rfl rfl (by kernel_rfl) (by kernel_rfl) (by kernel_rfl) (fun _ _ _ h => h) (Or.inl ⟨by rfl, fun w' hw' => ?_⟩) hS ?_
  · go_simp
  simp only [Act.put, List.setIfInBounds_toArray, List.set_cons_zero, List.set_cons_succ]
  refine H_put (i := 2) 68 (v := .pointer (some ⟨pp, 3, none⟩)) rfl rfl (by kernel_rfl) (by kernel_rfl) (by kernel_rfl) (fun _ _ _ h => h) (Or.inl ⟨by rfl, fun w' hw' => ?_⟩) hS ?_
  · go_simp
  simp only [Act.put, List.setIfInBounds_toArray, List.set_cons_zero, List.set_cons_succ]
  refine H_put (i := 3) 69 (v := Ptr q) rfl rfl (by kernel_rfl) (by kernel_rfl) (by kernel_rfl) (fun _ _ _ h => h) (Or.inl ⟨by rfl, fun w' hw' => ?_⟩) hS ?_
  · have c : w'.cell? ⟨pp, 3, none⟩ = some (Ptr q) := cellOf hw'.1 3; go_simp
  simp only [Act.put, List.setIfInBounds_toArray, List.set_cons_zero, List.set_cons_succ]
  refine H_put (i := 4) 70 (v := .pointer (some ⟨ab, 1, none⟩)) rfl rfl (by kernel_rfl) (by kernel_rfl) (by kernel_rfl) (fun _ _ _ h => h) (Or.inl ⟨by rfl, fun w' hw' => ?_⟩) hS ?_
  · go_simp
  simp only [Act.put, List.setIfInBounds_toArray, List.set_cons_zero, List.set_cons_succ]
  refine H_put (i := 5) 71 (v := .int .i64 no) rfl rfl (by kernel_rfl) (by kernel_rfl) (by kernel_rfl) (fun _ _ _ h => h) (Or.inl ⟨by rfl, fun w' hw' => ?_⟩) hS ?_
  · have c : w'.cell? ⟨ab, 1, none⟩ = some (.int .i64 no) := cellOf hw'.2 1; go_simp
  simp only [Act.put, List.setIfInBounds_toArray, List.set_cons_zero, List.set_cons_succ]
  refine H_call (i := 6) 72 24 #[Ptr q, .int .i64 no] (by kernel_rfl) rfl rfl (by rfl) (by go_simp) (HC2.out w2.drew Y (HY.out.adds (Touch.refl _ w2).drew)) ?_
  rintro e w3 ⟨rfl, H3⟩
  have hS2 : (fun w' : World => w'.heap[pp]? = some (PB11 d r (Ptr p) (Ptr q)) ∧ w'.heap[ab]? = some (AB11 1 no off z fa fn fc c ka kn kc torn at_)) _ := ⟨H3.out.other (pp, PB11 d r (Ptr p) (Ptr q)) (List.mem_append_right _ (List.mem_cons_of_mem _ List.mem_cons_self)), H3.out.other (ab, AB11 1 no off z fa fn fc c ka kn kc torn at_) (List.mem_append_right _ List.mem_cons_self)⟩
  refine ⟨_, _, rfl, hS2, fun w' h => h, ?_⟩
  clear hS; have hS := hS2; clear hS2
  simp only [Act.put, List.setIfInBounds_toArray, List.set_cons_zero, List.set_cons_succ]
  refine H_put (i := 7) 65 (v := .tuple #[.string ⟨bs.toArray⟩, .int .i64 zz]) rfl rfl (by kernel_rfl) (by kernel_rfl) (by kernel_rfl) (fun _ _ _ h => h) (Or.inl ⟨by rfl, fun w' hw' => ?_⟩) hS ?_
  · go_simp
  simp only [Act.put, List.setIfInBounds_toArray, List.set_cons_zero, List.set_cons_succ]
  refine H_put (i := 8) 73 (v := .string ⟨bs.toArray⟩) rfl rfl (by kernel_rfl) (by kernel_rfl) (by kernel_rfl) (fun _ _ _ h => h) (Or.inl ⟨by rfl, fun w' hw' => ?_⟩) hS ?_
  · go_simp
  simp only [Act.put, List.setIfInBounds_toArray, List.set_cons_zero, List.set_cons_succ]
  refine H_put (i := 9) 74 (v := .int .i64 zz) rfl rfl (by kernel_rfl) (by kernel_rfl) (by kernel_rfl) (fun _ _ _ h => h) (Or.inl ⟨by rfl, fun w' hw' => ?_⟩) hS ?_
  · go_simp
  simp only [Act.put, List.setIfInBounds_toArray, List.set_cons_zero, List.set_cons_succ]
  refine H_put (i := 10) 11 (v := .string ⟨bs.toArray⟩) rfl rfl (by kernel_rfl) (by kernel_rfl) (by kernel_rfl) (fun _ _ _ h => h) (Or.inl ⟨by rfl, fun w' hw' => ?_⟩) hS ?_
  · go_simp
  simp only [Act.put, List.setIfInBounds_toArray, List.set_cons_zero, List.set_cons_succ]
  refine H_put (i := 11) 12 (v := .int .i64 zz) rfl rfl (by kernel_rfl) (by kernel_rfl) (by kernel_rfl) (fun _ _ _ h => h) (Or.inl ⟨by rfl, fun w' hw' => ?_⟩) hS ?_
  · go_simp
  simp only [Act.put, List.setIfInBounds_toArray, List.set_cons_zero, List.set_cons_succ]
  refine wpAnyH_done (by kernel_rfl) ?_ _
  clear hS
  have HSame := hid (fun b o (e : a1 = some ⟨b, o, none⟩) => show w3.heap[b]? = w2.heap[b]? by
    obtain ⟨⟨⟨y, hy, rfl⟩, _⟩, _⟩ := HYb.out b o e
    rw [HY.out.other y (List.mem_append_left _ hy), H3.out.other y (List.mem_append_left _ hy)])
  have HAt3 := hid (show At w3 a1 bs from HAt.out.block (fun b o e _ => HSame.out b o e))
  have HGt := hid (fun j (hj : j < m1) => show ∃ (b o : Nat) (z : Int), a1 = some ⟨b, o, none⟩ ∧ w3.cell? ⟨b, o + j, none⟩ = some (.int .u8 z) ∧ w3.frozen? ⟨b, o + j, none⟩ = false by
    obtain ⟨b, o, e, hf⟩ := HFz.out j hj
    obtain ⟨b', o', e', hc⟩ := HAt3.out j (bs[j]'(by rw [← HM.out]; exact hj)) (by simp)
    rw [e] at e'
    cases e'
    exact ⟨b, o, _, e, hc, (World.frozen?_of_block (a := ⟨b, o + j, none⟩) (HSame.out b o e)).trans hf⟩)
  have hcv : (convert 37 9 (.slice a1 m1 k1)).run Tryz.prog w3 = .ok (.string ⟨bs.toArray⟩) w3 := by
    have q := conv_at w3 a1 bs k1 HAt3.out
    rw [← HM.out] at q
    exact q
  have hss : (bs == bs) = true := by simp
  have hss2 : ((⟨bs.toArray⟩ : ByteArray).toList == (⟨bs.toArray⟩ : ByteArray).toList) = true := by simp
  have HEnd := hid (fun (wr : World) (hT : TrnB (fun b => ∃ o, a1 = some ⟨b, o, none⟩) w3 wr) => show PwE w0 wr [(ab, AB11 1 no off z fa fn fc c ka kn kc torn at_), (pp, PB11 d r (Ptr p) (Ptr q))] p d q r (F.getS s D no) (F.getS s D no) D D (n + 1) (11 * n) from H3.out.bytes hT (fun b c => by obtain ⟨o, e⟩ := c; exact (HYb.out b o e).1) (fun x hx c => by obtain ⟨o, e⟩ := c; exact (HYb.out _ o e).2 x hx rfl))
  go_wp2_with fail
  clear hcv hss hss2
  go_loopw [86] (fun i wr => ∃ j : Nat, j ≤ m1 ∧ i = .int .i64 (j : Int) ∧ Hid (TrnB (fun b => ∃ o, a1 = some ⟨b, o, none⟩) w3 wr)) (fun i _ => m1 - (intOf i).toNat)
  case atStart => exact ⟨0, Nat.zero_le _, rfl, TrnB.refl _ _⟩
  case round =>
    obtain ⟨j, hj, rfl, HI⟩ := hrel
    by_cases hlt : j < m1
    · obtain ⟨b3, o3, z3, rfl, hc3, hf3⟩ := HGt.out j hlt
      obtain ⟨z4, q3⟩ := HI.out.2.1 _ _ hc3
      have q4 : wr.frozen? ⟨b3, o3 + j, none⟩ = false := by rw [HI.out.2.2]; exact hf3
      clear hc3 hf3
      go_wp2_with fail
      go_roundw
      case rel => exact ⟨j + 1, by omega, by go_num, HI.out.set ⟨o3, rfl⟩ _⟩
      case measure => simp [intOf]; omega
    · obtain rfl : j = m1 := by omega
      go_wp2_with fail
      go_ret
      exact ⟨rfl, p, d, q, r, _, _, ((HEnd.out wr HI.out).fewer (fun x hx => List.mem_cons_of_mem _ hx)).later (by omega) (by omega), HN.out.1.get D no, HN.out.2.1⟩
end Go.Proofs.YtjbdchgadfhffaaGreatDoor
