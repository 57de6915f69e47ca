/- More steps for regions that draw. -/
import Derived.Test.YtmmgfankbabfbaaDoorQ17
import Derived.Test.YtmmgfankbabfbaaDoorQ11
namespace Go.Proofs.YtmmgfankbabfbaaDoor
section
variable {P : Program} {ops : Array Oper} {Q : Exit → Act → World → Prop} {md : Region.Mode} {S : World → Prop} {X : Nat}
set_option maxRecDepth 100000 in
/-- One comes up alone. -/
theorem H_do {i : Nat} {o : Oper} (d : Option Nat) {fuel : Nat} {listed : Array Bool} {a : Act} {w : World} (hr : Region.ready md ops listed = [i]) (ho : ops[i]? = some o) (hd : o.dst = d)
    (hw : Region.wanted o (yielded ops a.tmps) = true) (h : ∀ K' : Act → World → Prop, (∀ v w', S w' → wpAnyH P md ops Q S fuel (listed.setIfInBounds i true) (a.put d v) w' → K' (a.put o.dst v) w') → Oper.wp P o a w K' Q) : wpAnyH P md ops Q S (fuel + 1) listed a w := by
  refine wpAnyH_all hr (by simp) (fun j hj => ?_)
  obtain rfl := List.mem_singleton.1 hj
  refine wpOp_step ho (fun K' hK => ?_)
  rw [if_pos hw]
  exact h K' (fun v w' hS hW => hK _ _ ⟨hS, by rw [hd]; exact hW⟩)
set_option maxRecDepth 100000 in
/-- A call comes up alone. -/
theorem E_call {i : Nat} {o : Oper} (d f : Nat) (args : Array Value) {fuel : Nat} {listed : Array Bool} {a : Act} {w : World} (hr : Region.ready md ops listed = [i]) (ho : ops[i]? = some o) (hd : o.dst = some d)
    (hw : Region.wanted o (yielded ops a.tmps) = true) (hx : (execOp a.eval o).run P w = .ok (.enter f args) w) {R : Ending → World → Prop} (hc : Calls P f args w R)
    (h : ∀ e w', R e w' → ∃ v : Value, e = .returned v ∧ (i ≠ X → S w') ∧ wpAnyE P md ops Q S X fuel (listed.setIfInBounds i true) (a.put (some d) v) w') : wpAnyE P md ops Q S X (fuel + 1) listed a w := by
  refine E_one hr ho (fun K' hK => ?_)
  rw [if_pos hw]
  unfold Oper.wp
  rw [hx]
  refine hc.mono fun e w' hR => ?_
  obtain ⟨v, rfl, h1, h2⟩ := h e w' hR
  refine hK _ _ h1 ?_
  rw [hd]; exact h2
end
end Go.Proofs.YtmmgfankbabfbaaDoor
