/- A region that draws its order, whose last operations wait for the others through a chain; a condition on the world is asked only till then. -/
import Derived.Test.YtjbdchgadfhffaaGreatDoorQ31
namespace Go.Proofs.YtjbdchgadfhffaaGreatDoor

section
variable {P : Program} {ops : Array Oper} {Q : Exit → Act → World → Prop} {md : Region.Mode} {S : World → Prop} {Xs : List Nat}

/-- Whatever order is picked from here on; S holds behind each operation but the numbers Xs. -/
def cwpAnyE (P : Program) (md : Region.Mode) (ops : Array Oper) (Q : Exit → Act → World → Prop) (S : World → Prop) (Xs : List Nat) : Nat → Array Bool → Act → World → Prop
  | 0, listed, a, w => Region.ready md ops listed = [] ∧ Q .normal a w
  | fuel + 1, listed, a, w =>
    (Region.ready md ops listed = [] → Q .normal a w) ∧
    ∀ i ∈ Region.ready md ops listed, wpOp P ops Q i (fun a' w' => (i ∉ Xs → S w') ∧ cwpAnyE P md ops Q S Xs fuel (listed.setIfInBounds i true) a' w') a w
set_option maxRecDepth 100000 in
theorem wpAny_of_c : ∀ (fuel : Nat) (listed : Array Bool) (a : Act) (w : World), cwpAnyE P md ops Q S Xs fuel listed a w → wpAny P md ops Q fuel listed a w := by
  intro fuel
  induction fuel with
  | zero => exact fun _ _ _ h => h
  | succ n ih => exact fun _ _ _ h => ⟨h.1, fun i hi => wpOp_mono (fun a' w' q => ih _ a' w' q.2) (h.2 i hi)⟩
/-- The numbers Xs wait for i through the numbers cs, none of which has come up. -/
def chained (md : Region.Mode) (ops : Array Oper) (listed : Array Bool) (Xs : List Nat) (i : Nat) (cs : List Nat) : Bool :=
  Xs.all (fun x => cs.contains x) && cs.all (fun k => (i :: cs).any (fun k' => pwaitsFor md ops k k')) && (i :: cs).all (fun k => !(listed.getD k true))
set_option maxRecDepth 100000 in
theorem chained_out {listed : Array Bool} {i j : Nat} {oj : Oper} {cs : List Nat} (h : chained md ops listed Xs i cs = true) (hoj : ops[j]? = some oj) (hall : ∀ e ∈ oj.after, Region.binds md e = true → listed[e.on]?.getD false = true) : j ∉ cs := by
  simp only [chained, Bool.and_eq_true, List.all_eq_true, List.any_eq_true, Bool.not_eq_true'] at h
  obtain ⟨⟨_, h2⟩, h3⟩ := h
  intro c
  obtain ⟨k, hk, hw⟩ := h2 j c
  simp only [pwaitsFor, hoj, Array.any_eq_true, Bool.and_eq_true, beq_iff_eq] at hw
  obtain ⟨x, hx, b1, b2⟩ := hw
  have q1 := hall _ (Array.getElem_mem hx) b1
  have q0 := h3 k hk
  rw [b2] at q1
  rcases Nat.lt_or_ge k listed.size with c | c
  · simp [c] at q0 q1; rw [q0] at q1; cases q1
  · simp [Array.getElem?_eq_none c] at q1
set_option maxRecDepth 100000 in
theorem chained_set {listed : Array Bool} {i j : Nat} {cs : List Nat} (h : chained md ops listed Xs i cs = true) (e : j ≠ i) (hc : j ∉ cs) : chained md ops (listed.setIfInBounds j true) Xs i cs = true := by
  simp only [chained, Bool.and_eq_true, List.all_eq_true, Bool.not_eq_true'] at h ⊢
  refine ⟨h.1, fun k hk => ?_⟩
  have hkj : j ≠ k := by
    rintro rfl
    rcases List.mem_cons.1 hk with c | c
    · exact e c
    · exact hc c
  rw [getD_set_ne true hkj]
  exact h.2 k hk
set_option maxRecDepth 100000 in
theorem Pc_first {i : Nat} {oi : Oper} {v : Value} (cs : List Nat) (hi : ops[i]? = some oi) (hsel : ∀ (j : Nat) (o : Oper) cs b, ops[j]? = some o → o.op ≠ .select cs b)
    (hQ : ∀ c a w, Q (.panic c) (a.put oi.dst v) w → Q (.panic c) a w) (fuel : Nat) :
    ∀ (listed : Array Bool) (a : Act) (w : World), chained md ops listed Xs i cs = true →
      (∀ j oj, ops[j]? = some oj → j ≠ i → listed.getD j true = false → (∀ e ∈ oj.after, Region.binds md e = true → e.on ≠ i) → oi.apart ops oj = true) →
      i ∈ Region.ready md ops listed → YieldsIf P ops S oi v a → S w →
      cwpAnyE P md ops Q S Xs fuel (listed.setIfInBounds i true) (a.put oi.dst v) w → cwpAnyE P md ops Q S Xs (fuel + 1) listed a w := by
  induction fuel with
  | zero =>
    intro listed a w _ _ hr hy hS H
    refine ⟨fun h => (by rw [h] at hr; cases hr), fun j hj => ?_⟩
    by_cases e : j = i
    · subst e; exact hy.wpOp hi hS ⟨fun _ => hS, H⟩
    · have q := ready_mono hj e
      rw [H.1] at q; cases q
  | succ fuel ih =>
    intro listed a w hX hfree hr hy hS H
    refine ⟨fun h => (by rw [h] at hr; cases hr), fun j hj => ?_⟩
    by_cases e : j = i
    · subst e; exact hy.wpOp hi hS ⟨fun _ => hS, H⟩
    · have q := H.2 j (ready_mono hj e)
      obtain ⟨hun, oj, hoj, hall⟩ := mem_ready.1 hj
      have hnot : ∀ x ∈ oj.after, Region.binds md x = true → x.on ≠ i := fun x hx hb hxi => by
        have q1 := hall x hx hb
        have q0 := (mem_ready.1 hr).1
        rw [hxi] at q1
        rcases Nat.lt_or_ge i listed.size with c | c
        · simp [c] at q0 q1; rw [q0] at q1; cases q1
        · simp [Array.getElem?_eq_none c] at q1
      have q2 := wpOp_putIf hoj (hfree j oj hoj e hun hnot) (fun cs b => hsel i oi cs b hi) (fun cs b => hsel j oj cs b hoj) hQ hy q
      have hout : j ∉ cs := chained_out hX hoj (fun x hx hb => by have := hall x hx hb; simpa using this)
      have hlast : j ∉ Xs := fun c => by
        simp only [chained, Bool.and_eq_true, List.all_eq_true] at hX
        exact hout (by simpa using hX.1.1 j c)
      have hfree' : ∀ k ok, ops[k]? = some ok → k ≠ i → (listed.setIfInBounds j true).getD k true = false →
          (∀ x ∈ ok.after, Region.binds md x = true → x.on ≠ i) → oi.apart ops ok = true := fun k ok hk hki hu hn => by
        refine hfree k ok hk hki ?_ hn
        by_cases c : j = k
        · subst c; exact hun
        · rw [getD_set_ne true c] at hu; exact hu
      refine wpOp_mono (fun a' w' q3 => ⟨fun _ => q3.2.1 hlast, ih (listed.setIfInBounds j true) a' w' (chained_set hX e hout) hfree' (ready_mono hr (Ne.symm e)) q3.1 (q3.2.1 hlast) ?_⟩) q2
      rw [Array.setIfInBounds_comm _ _ e]
      exact q3.2.2
/-- Number i is taken first. -/
theorem Pc_put {i : Nat} {oi : Oper} (d : Nat) (cs : List Nat) {v : Value} {fuel : Nat} {listed : Array Bool} {a : Act} {w : World} (hi : ops[i]? = some oi) (hd : oi.dst = some d)
    (hs : Region.noSelect ops = true) (hf : Region.free md ops listed i = true) (hr : (Region.ready md ops listed).contains i = true)
    (hX : chained md ops listed Xs i cs = true) (hQ : ∀ c a w, Q (.panic c) (a.put oi.dst v) w → Q (.panic c) a w) (hy : YieldsIf P ops S oi v a) (hS : S w)
    (h : cwpAnyE P md ops Q S Xs fuel (listed.setIfInBounds i true) (a.put (some d) v) w) : cwpAnyE P md ops Q S Xs (fuel + 1) listed a w :=
  Pc_first cs hi (Region.noSelect_spec hs) hQ fuel listed a w hX (Region.free_spec hi hf) (by simpa using hr) hy hS (by rw [hd]; exact h)
set_option maxRecDepth 100000 in
/-- One alone may come up. -/
theorem Pc_one {i : Nat} {o : Oper} {fuel : Nat} {listed : Array Bool} {a : Act} {w : World} (hr : Region.ready md ops listed = [i]) (ho : ops[i]? = some o)
    (h : ∀ K' : Act → World → Prop, (∀ a w, (i ∉ Xs → S w) → cwpAnyE P md ops Q S Xs fuel (listed.setIfInBounds i true) a w → K' a w) → if Region.wanted o (yielded ops a.tmps) = true then Oper.wp P o a w K' Q else K' (a.put o.dst undef) w) :
    cwpAnyE P md ops Q S Xs (fuel + 1) listed a w := by
  refine ⟨fun c => (by rw [hr] at c; cases c), fun j hj => ?_⟩
  rw [hr] at hj
  obtain rfl := List.mem_singleton.1 hj
  exact wpOp_step ho (fun K' hK => h K' (fun a w h1 h2 => hK a w ⟨h1, h2⟩))
set_option maxRecDepth 100000 in
theorem Pc_do {i : Nat} {o : Oper} (d : Option Nat) {fuel : Nat} {listed : Array Bool} {a : Act} {w : World} (hr : Region.ready md ops listed = [i]) (ho : ops[i]? = some o) (hd : o.dst = d) (hg : o.guard = none)
    (h : ∀ K' : Act → World → Prop, (∀ v w, (i ∉ Xs → S w) → cwpAnyE P md ops Q S Xs fuel (listed.setIfInBounds i true) (a.put d v) w → K' (a.put o.dst v) w) → Oper.wp P o a w K' Q) :
    cwpAnyE P md ops Q S Xs (fuel + 1) listed a w := by
  refine Pc_one hr ho (fun K' hK => ?_)
  rw [if_pos (by simp [Region.wanted, hg])]
  exact h K' (fun v w h1 h2 => hK _ _ h1 (by rw [hd]; exact h2))
theorem Pc_done {listed : Array Bool} {a : Act} {w : World} (hr : Region.ready md ops listed = []) (h : Q .normal a w) : ∀ fuel, cwpAnyE P md ops Q S Xs fuel listed a w
  | 0 => ⟨hr, h⟩
  | _ + 1 => ⟨fun _ => h, by rw [hr]; simp⟩
theorem Pc_begin {id : Nat} {a : Act} {w : World} (hm : P.follows .mixedOrders = true) (h : cwpAnyE P .any ops Q S Xs ops.size (Array.replicate ops.size false) a w.drew) : (Code.region id ops true).wp P Q a w :=
  wp_region_any hm (wpAny_of_c _ _ _ _ h)
set_option maxRecDepth 100000 in
/-- A call comes up alone. -/
theorem Pc_call {i : Nat} {o : Oper} (d f : Nat) (args : Array Value) {fuel : Nat} {listed : Array Bool} {a : Act} {w : World} (hr : Region.ready md ops listed = [i]) (ho : ops[i]? = some o) (hd : o.dst = some d)
    (hw : Region.wanted o (yielded ops a.tmps) = true) (hx : (execOp a.eval o).run P w = .ok (.enter f args) w) {R : Ending → World → Prop} (hc : Calls P f args w R)
    (h : ∀ e w', R e w' → ∃ v : Value, e = .returned v ∧ (i ∉ Xs → S w') ∧ cwpAnyE P md ops Q S Xs fuel (listed.setIfInBounds i true) (a.put (some d) v) w') : cwpAnyE P md ops Q S Xs (fuel + 1) listed a w := by
  refine Pc_one hr ho (fun K' hK => ?_)
  rw [if_pos hw]
  unfold Oper.wp
  rw [hx]
  refine hc.mono fun e w' hR => ?_
  obtain ⟨v, rfl, h1, h2⟩ := h e w' hR
  refine hK _ _ h1 ?_
  rw [hd]; exact h2
end
end Go.Proofs.YtjbdchgadfhffaaGreatDoor
