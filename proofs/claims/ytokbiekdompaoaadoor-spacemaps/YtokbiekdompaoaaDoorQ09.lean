/- More steps for regions that draw. -/
import Derived.Test.YtokbiekdompaoaaDoorQ04
namespace Go.Proofs.YtokbiekdompaoaaDoor
section
variable {P : Program} {ops : Array Oper} {Q : Exit → Act → World → Prop} {md : Region.Mode} {S : World → Prop}
set_option maxRecDepth 100000 in
/-- One comes up alone. -/
theorem H_do {i : Nat} {o : Oper} (d : Option Nat) {fuel : Nat} {listed : Array Bool} {a : Act} {w : World} (hr : Region.ready md ops listed = [i]) (ho : ops[i]? = some o) (hd : o.dst = d)
    (hw : Region.wanted o (yielded ops a.tmps) = true) (h : ∀ K' : Act → World → Prop, (∀ v w', S w' → wpAnyH P md ops Q S fuel (listed.setIfInBounds i true) (a.put d v) w' → K' (a.put o.dst v) w') → Oper.wp P o a w K' Q) : wpAnyH P md ops Q S (fuel + 1) listed a w := by
  refine wpAnyH_all hr (by simp) (fun j hj => ?_)
  obtain rfl := List.mem_singleton.1 hj
  refine wpOp_step ho (fun K' hK => ?_)
  rw [if_pos hw]
  exact h K' (fun v w' hS hW => hK _ _ ⟨hS, by rw [hd]; exact hW⟩)
set_option maxRecDepth 100000 in
/-- An operation among others that may come up: it yields a value in a new world. -/
theorem O_value {i : Nat} {o : Oper} (d : Nat) {v : Value} {fuel : Nat} {listed : Array Bool} {a : Act} {w w' : World} (ho : ops[i]? = some o) (hd : o.dst = some d)
    (hw : Region.wanted o (yielded ops a.tmps) = true) (hx : (execOp a.eval o).run P w = .ok (.value v) w') (S' : World → Prop) (hS : ∀ w, S' w → S w) (h1 : S' w')
    (h : wpAnyH P md ops Q S' fuel (listed.setIfInBounds i true) (a.put (some d) v) w') :
    wpOp P ops Q i (fun a' w' => S w' ∧ wpAnyH P md ops Q S fuel (listed.setIfInBounds i true) a' w') a w := by
  refine wpOp_step ho (fun K' hK => ?_)
  rw [if_pos hw]
  unfold Oper.wp
  rw [hx]
  refine hK _ _ ⟨hS w' h1, H_narrow hS _ _ _ _ ?_⟩
  rw [hd]; exact h
set_option maxRecDepth 100000 in
/-- A call among others that may come up. -/
theorem O_call {i : Nat} {o : Oper} (d f : Nat) (args : Array Value) {fuel : Nat} {listed : Array Bool} {a : Act} {w : World} (ho : ops[i]? = some o) (hd : o.dst = some d)
    (hw : Region.wanted o (yielded ops a.tmps) = true) (hx : (execOp a.eval o).run P w = .ok (.enter f args) w) {R : Ending → World → Prop} (hc : Calls P f args w R)
    (h : ∀ e w', R e w' → ∃ (v : Value) (S' : World → Prop), e = .returned v ∧ S' w' ∧ (∀ w, S' w → S w) ∧ wpAnyH P md ops Q S' fuel (listed.setIfInBounds i true) (a.put (some d) v) w') :
    wpOp P ops Q i (fun a' w' => S w' ∧ wpAnyH P md ops Q S fuel (listed.setIfInBounds i true) a' w') a w := by
  refine wpOp_step ho (fun K' hK => ?_)
  rw [if_pos hw]
  unfold Oper.wp
  rw [hx]
  refine hc.mono fun e w' hR => ?_
  obtain ⟨v, S', rfl, h1, h2, h3⟩ := h e w' hR
  refine hK _ _ ⟨h2 w' h1, H_narrow h2 _ _ _ _ ?_⟩
  rw [hd]; exact h3
end
end Go.Proofs.YtokbiekdompaoaaDoor
