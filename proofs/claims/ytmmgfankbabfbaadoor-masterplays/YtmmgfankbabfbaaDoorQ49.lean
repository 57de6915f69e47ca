/- A region that draws its order, in which the last operations from number X on may break the condition. -/
import Derived.Test.YtmmgfankbabfbaaDoorQ21
namespace Go.Proofs.YtmmgfankbabfbaaDoor

section
variable {P : Program} {ops : Array Oper} {Q : Exit → Act → World → Prop} {md : Region.Mode} {S : World → Prop} {X : Nat}

/-- Whatever order is picked from here on; S holds behind each operation ahead of number X. -/
def wpAnyF (P : Program) (md : Region.Mode) (ops : Array Oper) (Q : Exit → Act → World → Prop) (S : World → Prop) (X : Nat) : Nat → Array Bool → Act → World → Prop
  | 0, listed, a, w => Region.ready md ops listed = [] ∧ Q .normal a w
  | fuel + 1, listed, a, w =>
    (Region.ready md ops listed = [] → Q .normal a w) ∧
    ∀ i ∈ Region.ready md ops listed, wpOp P ops Q i (fun a' w' => (i < X → S w') ∧ wpAnyF P md ops Q S X fuel (listed.setIfInBounds i true) a' w') a w
set_option maxRecDepth 100000 in
theorem wpAny_of_F : ∀ (fuel : Nat) (listed : Array Bool) (a : Act) (w : World), wpAnyF P md ops Q S X fuel listed a w → wpAny P md ops Q fuel listed a w := by
  intro fuel
  induction fuel with
  | zero => exact fun _ _ _ h => h
  | succ n ih => exact fun _ _ _ h => ⟨h.1, fun i hi => wpOp_mono (fun a' w' q => ih _ a' w' q.2) (h.2 i hi)⟩
/-- Operation j waits for operation i, or for one that does. -/
def depOf (md : Region.Mode) (ops : Array Oper) : Nat → Nat → Nat → Bool
  | 0, j, i => waitsFor md ops j i
  | n + 1, j, i => waitsFor md ops j i || (List.range ops.size).any fun k => waitsFor md ops j k && depOf md ops n k i
/-- What is listed was ready. -/
def Cl (md : Region.Mode) (ops : Array Oper) (listed : Array Bool) : Prop := ∀ j k, listed.getD j false = true → waitsFor md ops j k = true → listed.getD k false = true
def clB (md : Region.Mode) (ops : Array Oper) (listed : Array Bool) : Bool := (List.range listed.size).all fun j => !(listed.getD j false) || (match ops[j]? with | some o => o.after.all fun e => !(Region.binds md e) || listed.getD e.on false | none => true)
/-- All operations from X on wait for number i. -/
def allWait (md : Region.Mode) (ops : Array Oper) (X i : Nat) : Bool := (List.range ops.size).all fun j => decide (j < X) || depOf md ops 8 j i
set_option maxRecDepth 100000 in
theorem waits_ready {j k : Nat} {listed : Array Bool} (hj : j ∈ Region.ready md ops listed) (h : waitsFor md ops j k = true) : listed.getD k false = true := by
  obtain ⟨_, oj, hoj, hall⟩ := mem_ready.1 hj
  simp only [waitsFor, hoj, Array.any_eq_true, Bool.and_eq_true, beq_iff_eq] at h
  obtain ⟨x, hx, c1, c2⟩ := h
  have := hall _ (Array.getElem_mem hx) c1
  rw [c2] at this
  exact this
theorem dep_listed {listed : Array Bool} (hc : Cl md ops listed) : ∀ (n j i : Nat), listed.getD j false = true → depOf md ops n j i = true → listed.getD i false = true
  | 0, j, i, hj, h => hc j i hj h
  | n + 1, j, i, hj, h => by
    rw [depOf, Bool.or_eq_true] at h
    rcases h with h | h
    · exact hc j i hj h
    · obtain ⟨k, _, h2⟩ := List.any_eq_true.1 h
      rw [Bool.and_eq_true] at h2
      exact dep_listed hc n k i (hc j k hj h2.1) h2.2
set_option maxRecDepth 100000 in
theorem dep_ready {listed : Array Bool} (hc : Cl md ops listed) {n j i : Nat} (hj : j ∈ Region.ready md ops listed) (h : depOf md ops n j i = true) : listed.getD i false = true := by
  cases n with
  | zero => exact waits_ready hj h
  | succ n =>
    rw [depOf, Bool.or_eq_true] at h
    rcases h with h | h
    · exact waits_ready hj h
    · obtain ⟨k, _, h2⟩ := List.any_eq_true.1 h
      rw [Bool.and_eq_true] at h2
      exact dep_listed hc n k i (waits_ready hj h2.1) h2.2
set_option maxRecDepth 100000 in
theorem Cl.add {listed : Array Bool} (hc : Cl md ops listed) {j : Nat} (hj : j ∈ Region.ready md ops listed) : Cl md ops (listed.setIfInBounds j true) := by
  have up : ∀ k, listed.getD k false = true → (listed.setIfInBounds j true).getD k false = true := fun k hk => by
    by_cases e : j = k
    · subst e
      rcases Nat.lt_or_ge j listed.size with c | c
      · simp [c]
      · simp [Array.getElem?_eq_none c] at hk
    · rw [getD_set_ne false e]; exact hk
  intro a k ha hw
  by_cases e : j = a
  · subst e; exact up k (waits_ready hj hw)
  · rw [getD_set_ne false e] at ha
    exact up k (hc a k ha hw)
set_option maxRecDepth 100000 in
theorem cl_of {listed : Array Bool} (h : clB md ops listed = true) : Cl md ops listed := by
  intro j k hj hw
  have hjs : j < listed.size := by
    rcases Nat.lt_or_ge j listed.size with c | c
    · exact c
    · simp [Array.getElem?_eq_none c] at hj
  have h1 := List.all_eq_true.1 h j (List.mem_range.2 hjs)
  rw [Bool.or_eq_true] at h1
  rcases h1 with h1 | h1
  · rw [hj] at h1; cases h1
  · unfold waitsFor at hw
    cases ho : ops[j]? with
    | none => rw [ho] at hw; cases hw
    | some o =>
      rw [ho] at hw h1
      simp only [Array.any_eq_true, Bool.and_eq_true, beq_iff_eq] at hw
      obtain ⟨x, hx, c1, c2⟩ := hw
      have h2 := Array.all_eq_true.1 h1 x hx
      rw [Bool.or_eq_true, c1] at h2
      rcases h2 with h2 | h2
      · cases h2
      · rw [c2] at h2; exact h2
set_option maxRecDepth 100000 in
theorem F_first {i : Nat} {oi : Oper} {v : Value} (hi : ops[i]? = some oi) (hsel : ∀ (j : Nat) (o : Oper) cs b, ops[j]? = some o → o.op ≠ .select cs b)
    (hQ : ∀ c a w, Q (.panic c) (a.put oi.dst v) w → Q (.panic c) a w) (hX : allWait md ops X i = true) (fuel : Nat) :
    ∀ (listed : Array Bool) (a : Act) (w : World),
      (∀ j oj, ops[j]? = some oj → j ≠ i → listed.getD j true = false → (∀ e ∈ oj.after, Region.binds md e = true → e.on ≠ i) → oi.apart ops oj = true) →
      Cl md ops listed → i ∈ Region.ready md ops listed → YieldsIf P ops S oi v a → S w →
      wpAnyF P md ops Q S X fuel (listed.setIfInBounds i true) (a.put oi.dst v) w → wpAnyF P md ops Q S X (fuel + 1) listed a w := by
  induction fuel with
  | zero =>
    intro listed a w _ _ hr hy hS H
    refine ⟨fun h => (by rw [h] at hr; cases hr), fun j hj => ?_⟩
    by_cases e : j = i
    · subst e; exact hy.wpOp hi hS ⟨fun _ => hS, H⟩
    · have q := ready_mono hj e
      rw [H.1] at q; cases q
  | succ fuel ih =>
    intro listed a w hfree hcl hr hy hS H
    refine ⟨fun h => (by rw [h] at hr; cases hr), fun j hj => ?_⟩
    by_cases e : j = i
    · subst e; exact hy.wpOp hi hS ⟨fun _ => hS, H⟩
    · have q := H.2 j (ready_mono hj e)
      obtain ⟨hun, oj, hoj, hall⟩ := mem_ready.1 hj
      have hnot : ∀ x ∈ oj.after, Region.binds md x = true → x.on ≠ i := fun x hx hb hxi => by
        have q1 := hall x hx hb
        have q0 := (mem_ready.1 hr).1
        rw [hxi] at q1
        rcases Nat.lt_or_ge i listed.size with c | c
        · simp [c] at q0 q1; rw [q0] at q1; cases q1
        · simp [Array.getElem?_eq_none c] at q1
      have q2 := wpOp_putIf hoj (hfree j oj hoj e hun hnot) (fun cs b => hsel i oi cs b hi) (fun cs b => hsel j oj cs b hoj) hQ hy q
      have hlast : j < X := by
        rcases Nat.lt_or_ge j X with c | c
        · exact c
        · have hjl : j < ops.size := (Array.getElem?_eq_some_iff.1 hoj).1
          have hw := List.all_eq_true.1 hX j (List.mem_range.2 hjl)
          simp only [Bool.or_eq_true, decide_eq_true_eq] at hw
          have hw := hw.resolve_left (by omega)
          have q1 := dep_ready hcl hj hw
          have q0 := (mem_ready.1 hr).1
          rcases Nat.lt_or_ge i listed.size with c | c
          · simp [c] at q0 q1; rw [q0] at q1; cases q1
          · simp [Array.getElem?_eq_none c] at q1
      have hfree' : ∀ k ok, ops[k]? = some ok → k ≠ i → (listed.setIfInBounds j true).getD k true = false →
          (∀ x ∈ ok.after, Region.binds md x = true → x.on ≠ i) → oi.apart ops ok = true := fun k ok hk hki hu hn => by
        refine hfree k ok hk hki ?_ hn
        by_cases c : j = k
        · subst c; exact hun
        · rw [getD_set_ne true c] at hu; exact hu
      refine wpOp_mono (fun a' w' q3 => ⟨fun _ => q3.2.1 hlast, ih (listed.setIfInBounds j true) a' w' hfree' (hcl.add hj) (ready_mono hr (Ne.symm e)) q3.1 (q3.2.1 hlast) ?_⟩) q2
      rw [Array.setIfInBounds_comm _ _ e]
      exact q3.2.2
theorem F_put {i : Nat} {oi : Oper} (d : Nat) {v : Value} {fuel : Nat} {listed : Array Bool} {a : Act} {w : World} (hi : ops[i]? = some oi) (hd : oi.dst = some d)
    (hs : Region.noSelect ops = true) (hf : Region.free md ops listed i = true) (hr : (Region.ready md ops listed).contains i = true)
    (hX : allWait md ops X i = true) (hcl : clB md ops listed = true) (hQ : ∀ c a w, Q (.panic c) (a.put oi.dst v) w → Q (.panic c) a w) (hy : YieldsIf P ops S oi v a) (hS : S w)
    (h : wpAnyF P md ops Q S X fuel (listed.setIfInBounds i true) (a.put (some d) v) w) : wpAnyF P md ops Q S X (fuel + 1) listed a w :=
  F_first hi (Region.noSelect_spec hs) hQ hX fuel listed a w (Region.free_spec hi hf) (cl_of hcl) (by simpa using hr) hy hS (by rw [hd]; exact h)
set_option maxRecDepth 100000 in
theorem F_one {i : Nat} {o : Oper} {fuel : Nat} {listed : Array Bool} {a : Act} {w : World} (hr : Region.ready md ops listed = [i]) (ho : ops[i]? = some o)
    (h : ∀ K' : Act → World → Prop, (∀ a w, (i < X → S w) → wpAnyF P md ops Q S X fuel (listed.setIfInBounds i true) a w → K' a w) → if Region.wanted o (yielded ops a.tmps) = true then Oper.wp P o a w K' Q else K' (a.put o.dst undef) w) :
    wpAnyF P md ops Q S X (fuel + 1) listed a w := by
  refine ⟨fun c => (by rw [hr] at c; cases c), fun j hj => ?_⟩
  rw [hr] at hj
  obtain rfl := List.mem_singleton.1 hj
  exact wpOp_step ho (fun K' hK => h K' (fun a w h1 h2 => hK a w ⟨h1, h2⟩))
set_option maxRecDepth 100000 in
theorem F_do {i : Nat} {o : Oper} (d : Option Nat) {fuel : Nat} {listed : Array Bool} {a : Act} {w : World} (hr : Region.ready md ops listed = [i]) (ho : ops[i]? = some o) (hd : o.dst = d) (hg : o.guard = none)
    (h : ∀ K' : Act → World → Prop, (∀ v w, (i < X → S w) → wpAnyF P md ops Q S X fuel (listed.setIfInBounds i true) (a.put d v) w → K' (a.put o.dst v) w) → Oper.wp P o a w K' Q) :
    wpAnyF P md ops Q S X (fuel + 1) listed a w := by
  refine F_one hr ho (fun K' hK => ?_)
  rw [if_pos (by simp [Region.wanted, hg])]
  exact h K' (fun v w h1 h2 => hK _ _ h1 (by rw [hd]; exact h2))
set_option maxRecDepth 100000 in
theorem F_call {i : Nat} {o : Oper} (d f : Nat) (args : Array Value) {fuel : Nat} {listed : Array Bool} {a : Act} {w : World} (hr : Region.ready md ops listed = [i]) (ho : ops[i]? = some o) (hd : o.dst = some d)
    (hw : Region.wanted o (yielded ops a.tmps) = true) (hx : (execOp a.eval o).run P w = .ok (.enter f args) w) {R : Ending → World → Prop} (hc : Calls P f args w R)
    (h : ∀ e w', R e w' → ∃ v : Value, e = .returned v ∧ (i < X → S w') ∧ wpAnyF P md ops Q S X fuel (listed.setIfInBounds i true) (a.put (some d) v) w') : wpAnyF P md ops Q S X (fuel + 1) listed a w := by
  refine F_one hr ho (fun K' hK => ?_)
  rw [if_pos hw]
  unfold Oper.wp
  rw [hx]
  refine hc.mono fun e w' hR => ?_
  obtain ⟨v, rfl, h1, h2⟩ := h e w' hR
  refine hK _ _ h1 ?_
  rw [hd]; exact h2
theorem F_done {listed : Array Bool} {a : Act} {w : World} (hr : Region.ready md ops listed = []) (h : Q .normal a w) : ∀ fuel, wpAnyF P md ops Q S X fuel listed a w
  | 0 => ⟨hr, h⟩
  | _ + 1 => ⟨fun _ => h, by rw [hr]; simp⟩
theorem F_begin {id : Nat} {a : Act} {w : World} (hm : P.follows .mixedOrders = true) (h : wpAnyF P .any ops Q S X ops.size (Array.replicate ops.size false) a w.drew) : (Code.region id ops true).wp P Q a w :=
  wp_region_any hm (wpAny_of_F _ _ _ _ h)
end
end Go.Proofs.YtmmgfankbabfbaaDoor
