/- Texts put together: PReg2, NChange, NWithout, NPz, NLit. -/
import Derived.OrdersHeld
import Derived.RegionTactic
import Derived.Deep.MidRow
import Derived.Test.YtplppnngmlljnaaQ12
import Derived.Deep.CutBlock
import Derived.Deep.DeepCutAuto
import Derived.Deep.CutRange
/- A region that draws its order, walked under a condition on the world that is asked only while something is still to come. -/
namespace Go.Proofs.Ytplppnngmlljnaa

section
variable {P : Program} {ops : Array Oper} {Q : Exit → Act → World → Prop} {md : Region.Mode} {S : World → Prop} {X : Nat}

/-- Operation j waits for operation i. -/
def pwaitsFor (md : Region.Mode) (ops : Array Oper) (j i : Nat) : Bool :=
  match ops[j]? with | some o => o.after.any fun e => Region.binds md e && e.on == i | none => false

/-- Whatever order is picked from here on; S holds behind each operation but number X. -/
def pwpAnyE (P : Program) (md : Region.Mode) (ops : Array Oper) (Q : Exit → Act → World → Prop) (S : World → Prop) (X : Nat) : Nat → Array Bool → Act → World → Prop
  | 0, listed, a, w => Region.ready md ops listed = [] ∧ Q .normal a w
  | fuel + 1, listed, a, w =>
    (Region.ready md ops listed = [] → Q .normal a w) ∧
    ∀ i ∈ Region.ready md ops listed, wpOp P ops Q i (fun a' w' => (i ≠ X → S w') ∧ pwpAnyE P md ops Q S X fuel (listed.setIfInBounds i true) a' w') a w

set_option maxRecDepth 100000 in
theorem pwpAny_of_E : ∀ (fuel : Nat) (listed : Array Bool) (a : Act) (w : World), pwpAnyE P md ops Q S X fuel listed a w → wpAny P md ops Q fuel listed a w := by
  intro fuel
  induction fuel with
  | zero => exact fun _ _ _ h => h
  | succ n ih => exact fun _ _ _ h => ⟨h.1, fun i hi => wpOp_mono (fun a' w' q => ih _ a' w' q.2) (h.2 i hi)⟩

set_option maxRecDepth 100000 in
theorem Pe_first {i : Nat} {oi : Oper} {v : Value} (hi : ops[i]? = some oi) (hsel : ∀ (j : Nat) (o : Oper) cs b, ops[j]? = some o → o.op ≠ .select cs b)
    (hQ : ∀ c a w, Q (.panic c) (a.put oi.dst v) w → Q (.panic c) a w) (hX : (decide (ops.size ≤ X) || pwaitsFor md ops X i) = true) (fuel : Nat) :
    ∀ (listed : Array Bool) (a : Act) (w : World),
      (∀ j oj, ops[j]? = some oj → j ≠ i → listed.getD j true = false → (∀ e ∈ oj.after, Region.binds md e = true → e.on ≠ i) → oi.apart ops oj = true) →
      i ∈ Region.ready md ops listed → YieldsIf P ops S oi v a → S w →
      pwpAnyE P md ops Q S X fuel (listed.setIfInBounds i true) (a.put oi.dst v) w → pwpAnyE P md ops Q S X (fuel + 1) listed a w := by
  induction fuel with
  | zero =>
    intro listed a w _ hr hy hS H
    refine ⟨fun h => (by rw [h] at hr; cases hr), fun j hj => ?_⟩
    by_cases e : j = i
    · subst e; exact hy.wpOp hi hS ⟨fun _ => hS, H⟩
    · have q := ready_mono hj e
      rw [H.1] at q; cases q
  | succ fuel ih =>
    intro listed a w hfree hr hy hS H
    refine ⟨fun h => (by rw [h] at hr; cases hr), fun j hj => ?_⟩
    by_cases e : j = i
    · subst e; exact hy.wpOp hi hS ⟨fun _ => hS, H⟩
    · have q := H.2 j (ready_mono hj e)
      obtain ⟨hun, oj, hoj, hall⟩ := mem_ready.1 hj
      have hnot : ∀ x ∈ oj.after, Region.binds md x = true → x.on ≠ i := fun x hx hb hxi => by
        have q1 := hall x hx hb
        have q0 := (mem_ready.1 hr).1
        rw [hxi] at q1
        rcases Nat.lt_or_ge i listed.size with c | c
        · simp [c] at q0 q1; rw [q0] at q1; cases q1
        · simp [Array.getElem?_eq_none c] at q1
      have q2 := wpOp_putIf hoj (hfree j oj hoj e hun hnot) (fun cs b => hsel i oi cs b hi) (fun cs b => hsel j oj cs b hoj) hQ hy q
      have hlast : j ≠ X := fun c => by
        subst c
        have hjl : ¬ ops.size ≤ j := Nat.not_le.2 (Array.getElem?_eq_some_iff.1 hoj).1
        simp only [pwaitsFor, hoj, Array.any_eq_true, Bool.and_eq_true, beq_iff_eq, Bool.or_eq_true, decide_eq_true_eq, hjl, false_or] at hX
        obtain ⟨k, hk, c1, c2⟩ := hX
        exact absurd c2 (hnot _ (Array.getElem_mem hk) c1)
      have hfree' : ∀ k ok, ops[k]? = some ok → k ≠ i → (listed.setIfInBounds j true).getD k true = false →
          (∀ x ∈ ok.after, Region.binds md x = true → x.on ≠ i) → oi.apart ops ok = true := fun k ok hk hki hu hn => by
        refine hfree k ok hk hki ?_ hn
        by_cases c : j = k
        · subst c; exact hun
        · rw [getD_set_ne true c] at hu; exact hu
      refine wpOp_mono (fun a' w' q3 => ⟨fun _ => q3.2.1 hlast, ih (listed.setIfInBounds j true) a' w' hfree' (ready_mono hr (Ne.symm e)) q3.1 (q3.2.1 hlast) ?_⟩) q2
      rw [Array.setIfInBounds_comm _ _ e]
      exact q3.2.2

/-- Number i is taken first. -/
theorem Pe_take {i : Nat} {oi : Oper} {v : Value} {fuel : Nat} {listed : Array Bool} {a : Act} {w : World} (hi : ops[i]? = some oi)
    (hs : Region.noSelect ops = true) (hf : Region.free md ops listed i = true) (hr : (Region.ready md ops listed).contains i = true)
    (hX : (decide (ops.size ≤ X) || pwaitsFor md ops X i) = true) (hQ : ∀ c a w, Q (.panic c) (a.put oi.dst v) w → Q (.panic c) a w) (hy : YieldsIf P ops S oi v a) (hS : S w)
    (h : pwpAnyE P md ops Q S X fuel (listed.setIfInBounds i true) (a.put oi.dst v) w) : pwpAnyE P md ops Q S X (fuel + 1) listed a w :=
  Pe_first hi (Region.noSelect_spec hs) hQ hX fuel listed a w (Region.free_spec hi hf) (by simpa using hr) hy hS h

/-- The same, the place where its value goes written out. -/
theorem Pe_put {i : Nat} {oi : Oper} (d : Nat) {v : Value} {fuel : Nat} {listed : Array Bool} {a : Act} {w : World} (hi : ops[i]? = some oi) (hd : oi.dst = some d)
    (hs : Region.noSelect ops = true) (hf : Region.free md ops listed i = true) (hr : (Region.ready md ops listed).contains i = true)
    (hX : (decide (ops.size ≤ X) || pwaitsFor md ops X i) = true) (hQ : ∀ c a w, Q (.panic c) (a.put oi.dst v) w → Q (.panic c) a w) (hy : YieldsIf P ops S oi v a) (hS : S w)
    (h : pwpAnyE P md ops Q S X fuel (listed.setIfInBounds i true) (a.put (some d) v) w) : pwpAnyE P md ops Q S X (fuel + 1) listed a w :=
  Pe_take hi hs hf hr hX hQ hy hS (by rw [hd]; exact h)

set_option maxRecDepth 100000 in
/-- One alone may come up. -/
theorem Pe_one {i : Nat} {o : Oper} {fuel : Nat} {listed : Array Bool} {a : Act} {w : World} (hr : Region.ready md ops listed = [i]) (ho : ops[i]? = some o)
    (h : ∀ K' : Act → World → Prop, (∀ a w, (i ≠ X → S w) → pwpAnyE P md ops Q S X fuel (listed.setIfInBounds i true) a w → K' a w) → if Region.wanted o (yielded ops a.tmps) = true then Oper.wp P o a w K' Q else K' (a.put o.dst undef) w) :
    pwpAnyE P md ops Q S X (fuel + 1) listed a w := by
  refine ⟨fun c => (by rw [hr] at c; cases c), fun j hj => ?_⟩
  rw [hr] at hj
  obtain rfl := List.mem_singleton.1 hj
  exact wpOp_step ho (fun K' hK => h K' (fun a w h1 h2 => hK a w ⟨h1, h2⟩))

set_option maxRecDepth 100000 in
/-- The same, the place where its value goes written out. -/
theorem Pe_do {i : Nat} {o : Oper} (d : Option Nat) {fuel : Nat} {listed : Array Bool} {a : Act} {w : World} (hr : Region.ready md ops listed = [i]) (ho : ops[i]? = some o) (hd : o.dst = d) (hg : o.guard = none)
    (h : ∀ K' : Act → World → Prop, (∀ v w, (i ≠ X → S w) → pwpAnyE P md ops Q S X fuel (listed.setIfInBounds i true) (a.put d v) w → K' (a.put o.dst v) w) → Oper.wp P o a w K' Q) :
    pwpAnyE P md ops Q S X (fuel + 1) listed a w := by
  refine Pe_one hr ho (fun K' hK => ?_)
  rw [if_pos (by simp [Region.wanted, hg])]
  exact h K' (fun v w h1 h2 => hK _ _ h1 (by rw [hd]; exact h2))

theorem Pe_done {listed : Array Bool} {a : Act} {w : World} (hr : Region.ready md ops listed = []) (h : Q .normal a w) : ∀ fuel, pwpAnyE P md ops Q S X fuel listed a w
  | 0 => ⟨hr, h⟩
  | _ + 1 => ⟨fun _ => h, by rw [hr]; simp⟩

/-- The beginning. -/
theorem Pe_begin {id : Nat} {a : Act} {w : World} (hm : P.follows .mixedOrders = true) (h : pwpAnyE P .any ops Q S X ops.size (Array.replicate ops.size false) a w.drew) : (Code.region id ops true).wp P Q a w :=
  wp_region_any hm (pwpAny_of_E _ _ _ _ h)
set_option maxRecDepth 100000 in
/-- A call comes up alone. -/
theorem Pe_call {i : Nat} {o : Oper} (d f : Nat) (args : Array Value) {fuel : Nat} {listed : Array Bool} {a : Act} {w : World} (hr : Region.ready md ops listed = [i]) (ho : ops[i]? = some o) (hd : o.dst = some d)
    (hw : Region.wanted o (yielded ops a.tmps) = true) (hx : (execOp a.eval o).run P w = .ok (.enter f args) w) {R : Ending → World → Prop} (hc : Calls P f args w R)
    (h : ∀ e w', R e w' → ∃ v : Value, e = .returned v ∧ (i ≠ X → S w') ∧ pwpAnyE P md ops Q S X fuel (listed.setIfInBounds i true) (a.put (some d) v) w') : pwpAnyE P md ops Q S X (fuel + 1) listed a w := by
  refine Pe_one hr ho (fun K' hK => ?_)
  rw [if_pos hw]
  unfold Oper.wp
  rw [hx]
  refine hc.mono fun e w' hR => ?_
  obtain ⟨v, rfl, h1, h2⟩ := h e w' hR
  refine hK _ _ h1 ?_
  rw [hd]; exact h2
/-- Each that may come up. -/
theorem Pe_all {rs : List Nat} {fuel : Nat} {listed : Array Bool} {a : Act} {w : World} (hr : Region.ready md ops listed = rs) (hne : rs ≠ [])
    (h : ∀ j ∈ rs, wpOp P ops Q j (fun a' w' => (j ≠ X → S w') ∧ pwpAnyE P md ops Q S X fuel (listed.setIfInBounds j true) a' w') a w) : pwpAnyE P md ops Q S X (fuel + 1) listed a w :=
  ⟨fun c => absurd (hr.symm.trans c) hne, fun j hj => h j (by rw [← hr]; exact hj)⟩
set_option maxRecDepth 100000 in
/-- An operation among others: it yields a value in a new world. -/
theorem EO_value {i : Nat} {o : Oper} (d : Nat) {v : Value} {fuel : Nat} {listed : Array Bool} {a : Act} {w w' : World} (ho : ops[i]? = some o) (hd : o.dst = some d)
    (hw : Region.wanted o (yielded ops a.tmps) = true) (hx : (execOp a.eval o).run P w = .ok (.value v) w') (h1 : S w')
    (h : pwpAnyE P md ops Q S X fuel (listed.setIfInBounds i true) (a.put (some d) v) w') :
    wpOp P ops Q i (fun a' w' => (i ≠ X → S w') ∧ pwpAnyE P md ops Q S X fuel (listed.setIfInBounds i true) a' w') a w := by
  refine wpOp_step ho (fun K' hK => ?_)
  rw [if_pos hw]
  unfold Oper.wp
  rw [hx]
  refine hK _ _ ⟨fun _ => h1, ?_⟩
  rw [hd]; exact h
set_option maxRecDepth 100000 in
/-- A call among others. -/
theorem EO_call {i : Nat} {o : Oper} (d f : Nat) (args : Array Value) {fuel : Nat} {listed : Array Bool} {a : Act} {w : World} (ho : ops[i]? = some o) (hd : o.dst = some d)
    (hw : Region.wanted o (yielded ops a.tmps) = true) (hx : (execOp a.eval o).run P w = .ok (.enter f args) w) {R : Ending → World → Prop} (hc : Calls P f args w R)
    (h : ∀ e w', R e w' → ∃ v : Value, e = .returned v ∧ S w' ∧ pwpAnyE P md ops Q S X fuel (listed.setIfInBounds i true) (a.put (some d) v) w') :
    wpOp P ops Q i (fun a' w' => (i ≠ X → S w') ∧ pwpAnyE P md ops Q S X fuel (listed.setIfInBounds i true) a' w') a w := by
  refine wpOp_step ho (fun K' hK => ?_)
  rw [if_pos hw]
  unfold Oper.wp
  rw [hx]
  refine hc.mono fun e w' hR => ?_
  obtain ⟨v, rfl, h1, h2⟩ := h e w' hR
  refine hK _ _ ⟨fun _ => h1, ?_⟩
  rw [hd]; exact h2
end
end Go.Proofs.Ytplppnngmlljnaa

/- A node with other cells in the place of some. -/
namespace Go.Proofs.Ytplppnngmlljnaa
open Go.RowKit

theorem adds_dr (w : World) : Adds w w.drew := (Touch.refl _ w).drew
theorem one4v (a : Bool) {v : Value} (hv : v.oneCell' = true) : (#[Value.bool a, v, .slice none 0 0, .slice none 0 0] : Array Value).all (·.oneCell') = true :=
  all_oneCell_toArray (cs := [Value.bool a, v, .slice none 0 0, .slice none 0 0]) (by intro u hu; simp only [List.mem_cons, List.not_mem_nil, or_false] at hu; rcases hu with rfl | rfl | rfl | rfl; rfl; exact hv; rfl; rfl)
/-- A new row, as a slice. -/
def PRowV (el : TypeId) (w : World) (xs : List Value) (n : Nat) (e : Ending) (w' : World) : Prop := ∃ a cap, e = .returned (.slice a n cap) ∧ Hid (w'.ownsRow w.heap.size el 1 (.slice a n cap) n xs ∧ Adds w w')
theorem PRowV.of {f : Nat} {args : Array Value} {el : TypeId} {w : World} {xs : List Value} {n : Nat} (h : Calls Try.prog f args w (POwnV el w xs)) (hn : xs.length = n) : Calls Try.prog f args w (PRowV el w xs n) := by
  refine h.mono ?_
  rintro e w' ⟨v, rfl, H⟩
  obtain ⟨a, cap, rfl, _⟩ := own_cq H.out.1
  subst hn
  exact ⟨a, cap, rfl, H.out⟩
theorem row_setc {w : World} {B : Nat} {e : TypeId} {a : Option Addr} {m cap : Nat} {xs : List Value} (h : w.ownsRow B e 1 (.slice a m cap) m xs) {k : Nat} (hk : k < m) (u : Value) : ∃ g, a = some ⟨g, 0, none⟩ ∧ B ≤ g ∧ (w.setCell ⟨g, k, none⟩ u).ownsRow B e 1 (.slice a m cap) m (xs.set k u) ∧ w.frozen? ⟨g, k, none⟩ = false ∧ (w.cell? ⟨g, k, none⟩).isSome = true := by
  rcases h.2 with ⟨q, h0⟩ | ⟨g, cap2, cur, q, hb, hg, h1, h2, h3, h4⟩
  · omega
  · injection q with q1 q2 q3
    subst q1
    subst q3
    refine ⟨g, rfl, hb, ⟨by rw [List.length_set]; exact h.1, .inr ⟨g, cap, cur.setIfInBounds k u, rfl, hb, heap_setCell_same w g k cur e u hg, h1, h2, by rw [Array.size_setIfInBounds]; exact h3, ?_⟩⟩, frozen_of_row w g k cur e hg, ?_⟩
    · rw [Array.toList_setIfInBounds, Nat.mul_one, List.take_set, ← h4, Nat.mul_one]
    · rw [cellOf hg]
      simp
      omega
theorem row_apt {w : World} {B B' : Nat} {e e' : TypeId} {v u : Value} {n m : Nat} {xs ys : List Value} (h : w.ownsRow B e 1 v n xs) (h' : w.ownsRow B' e' 1 u m ys) (hne : e ≠ e') {j : Nat} (hj : v.ownBlock = some j) : u.ownBlock ≠ some j := fun c => by
  obtain ⟨c1, q1⟩ := row_type h hj
  obtain ⟨c2, q2⟩ := row_type h' c
  rw [q1] at q2
  injection q2 with q3
  injection q3 with _ q4 _
  exact hne q4
/-- The bytes are copied, one slice after the other. -/
structure Cl (B : Nat) (w3 wx : World) (N9 kl : Nat) (kx : List (List UInt8)) (v4 : Value) (a6 : Option Addr) (m c6 k : Nat) (bx : List Part) (hs : List Part) : Prop where
  box : wx.heap[N9]? = some (.cells #[.bool true, v4, .slice a6 m c6, .slice none 0 0] 28 (0, 0))
  keys : wx.ownsRow B 9 1 v4 kl (Ss kx)
  row : wx.ownsRow w3.heap.size 30 1 (.slice a6 m c6) m (hs.map PV)
  len : hs.length = m
  bs : hs.map (·.bs) = bx.map (·.bs)
  done : ∀ t (ht : t < hs.length), t < k → wx.ownsRow w3.heap.size 5 1 (PV hs[t]) hs[t].bs.length (S hs[t].bs)
  left : ∀ p ∈ hs, PQ wx (fun j => (Value.slice a6 m c6).ownBlock ≠ some j) p
  adds : Adds w3 wx
theorem Cl.step {B : Nat} {w3 wx w5 : World} {N9 kl : Nat} {kx : List (List UInt8)} {v4 : Value} {a6 : Option Addr} {m c6 k : Nat} {bx hs : List Part} (h : Cl B w3 wx N9 kl kx v4 a6 m c6 k bx hs) (hk : k < hs.length) {a7 : Option Addr} {c7 n : Nat} (hn : n = hs[k].bs.length)
    (h5 : w5.ownsRow wx.heap.size 5 1 (.slice a7 n c7) n (S hs[k].bs) ∧ Adds wx w5) : ∃ g, a6 = some ⟨g, 0, none⟩ ∧ w5.frozen? ⟨g, k, none⟩ = false ∧ (w5.cell? ⟨g, k, none⟩).isSome = true ∧ Cl B w3 (w5.setCell ⟨g, k, none⟩ (.slice a7 n c7)) N9 kl kx v4 a6 m c6 (k + 1) bx (hs.set k ⟨a7, hs[k].bs, c7⟩) := by
  subst hn
  have hr5 := row_touch h.row h5.2 (fun _ _ => id)
  obtain ⟨g, e6, hg, hrow, hfz, hsome⟩ := row_setc hr5 (by rw [← h.len]; exact hk) (.slice a7 hs[k].bs.length c7)
  subst e6
  have hgb : (Value.slice (some ⟨g, 0, none⟩) m c6).ownBlock = some g := rfl
  have hT : Touch (fun j => j = g) w5 (w5.setCell ⟨g, k, none⟩ (.slice a7 hs[k].bs.length c7)) := Touch.setCell (T := fun j => j = g) (Touch.refl _ w5) (p := ⟨g, k, none⟩) (fun _ => rfl) _
  have hne : N9 ≠ g := fun e => by
    subst e
    obtain ⟨cur, q⟩ := row_type h.row hgb
    rw [h.box] at q
    injection q with q1
    injection q1 with _ q2 _
    exact absurd q2 (by decide)
  have hz := h5.2.size
  refine ⟨g, rfl, hfz, hsome, ⟨?_, row_touch (row_touch h.keys h5.2 (fun _ _ => id)) hT (fun j hj e => row_apt h.keys h.row (by decide) hj (by rw [hgb, e])), ?_, by rw [List.length_set]; exact h.len, ?_, fun t ht htk => ?_, fun p hp => ?_, ?_⟩⟩
  · have q := box_adds h.box h5.2
    rw [hT.block N9 (Array.getElem?_eq_some_iff.1 q).1 hne]; exact q
  · rw [List.map_set]; exact hrow
  · rw [List.map_set, ← h.bs]
    apply List.ext_getElem?
    intro t
    by_cases e : t = k
    · subst e
      rw [List.getElem?_set_self (by simpa using hk), List.getElem?_map, List.getElem?_eq_getElem hk]; rfl
    · rw [List.getElem?_set_ne (fun c => e c.symm)]
  · by_cases e : t = k
    · subst e
      rw [List.getElem_set_self]
      exact row_lower (row_touch h5.1 hT (fun j hj c => row_apt h5.1 hr5 (by decide) hj (by rw [hgb, c]))) h.adds.size
    · rw [List.getElem_set_ne (fun c => e c.symm)]
      have ht' : t < hs.length := by rw [List.length_set] at ht; exact ht
      have q := h.done t ht' (by omega)
      exact row_touch (row_touch q h5.2 (fun _ _ => id)) hT (fun j hj c => row_apt q h.row (by decide) hj (by rw [hgb, c]))
  · rcases List.mem_or_eq_of_mem_set hp with hp | rfl
    · exact ((h.left p hp).adds h5.2).touch hT (fun j hj c => hj (by rw [hgb, c]))
    · obtain ⟨q1, q2, q3⟩ := own_sl h5.1
      injection q3.1 with e1 e2 e3
      subst e1
      subst e3
      have q4 : PQ w5 (fun j => wx.heap.size ≤ j) ⟨a7, hs[k].bs, c7⟩ := q3.2.2
      have hlt : g < wx.heap.size := by
        obtain ⟨cur, q⟩ := row_type h.row hgb
        exact (Array.getElem?_eq_some_iff.1 q).1
      refine (q4.touch hT (fun j hj c => by omega)).mono (fun j _ hj c => ?_)
      rw [hgb] at c
      have := Option.some.inj c
      omega
  · exact (h.adds.trans h5.2).then hT (fun j hj e => by omega)
/-- What lies there once the keys are put together: the new box, the keys. -/
def Chg (B : Nat) (w3 wx : World) (leaf : Bool) (xs : List Value) (n N9 : Nat) (v4 : Value) : Prop := wx.heap[N9]? = some (.cells #[.bool leaf, v4, .slice none 0 0, .slice none 0 0] 28 (0, 0)) ∧ wx.ownsRow B 9 1 v4 n xs ∧ Adds w3 wx ∧ B ≤ N9 ∧ w3.heap.size ≤ N9
theorem chg_a {w3 w4 W : World} {leaf : Bool} {xs : List Value} {v4 : Value} {B n : Nat} (hS : Adds w3 w4) (h : w4.ownsRow W.heap.size 9 1 v4 n xs ∧ Adds W w4) (hB : B ≤ W.heap.size) : Chg B w3 ((w4.alloc NZ).setRow w4.heap.size #[.bool leaf, v4, .slice none 0 0, .slice none 0 0]) leaf xs n w4.heap.size v4 := by
  have hz := h.2.size
  have hr : (w4.alloc NZ).ownsRow W.heap.size 9 1 v4 n xs := row_touch h.1 ((Touch.refl (fun _ => False) w4).alloc NZ) (fun _ _ => id)
  have hlt : ∀ j, v4.ownBlock = some j → j < w4.heap.size := fun j hj => by
    obtain ⟨cur, hc⟩ := row_type h.1 hj
    exact (Array.getElem?_eq_some_iff.1 hc).1
  refine ⟨setRow_heap _ _ _ _ 28 _ (heap_alloc_new w4 NZ), row_lower (row_touch hr (Touch.setRow (T := fun j => j = w4.heap.size) (Touch.refl _ _) (fun _ => rfl) _) (fun j hj c => by have := hlt j hj; omega)) hB, ?_, by omega, hS.size⟩
  exact Touch.setRow (T := fun _ => False) (hS.alloc _) (fun c => by have := hS.size; omega) _
theorem chg_b {w3 w4 : World} {leaf : Bool} {xs : List Value} {v4 : Value} {B n : Nat} (h : w4.ownsRow (w3.drew.alloc NZ).heap.size 9 1 v4 n xs ∧ Adds (w3.drew.alloc NZ) w4) (hB : B ≤ w3.heap.size) : Chg B w3 (w4.setRow w3.heap.size #[.bool leaf, v4, .slice none 0 0, .slice none 0 0]) leaf xs n w3.heap.size v4 := by
  have hsz : (w3.drew.alloc NZ).heap.size = w3.heap.size + 1 := by simp
  have hge : ∀ j, v4.ownBlock = some j → w3.heap.size + 1 ≤ j := fun j hj => by
    rcases h.1.2 with ⟨q, _⟩ | ⟨g, cap, cur, q, hb, _⟩
    · rw [q] at hj; cases hj
    · rw [q] at hj
      have e : g = j := Option.some.inj hj
      omega
  refine ⟨setRow_heap _ _ _ _ 28 _ (box_adds (heap_alloc_new w3.drew NZ) h.2), row_lower (row_touch h.1 (Touch.setRow (T := fun j => j = w3.heap.size) (Touch.refl _ _) (fun _ => rfl) _) (fun j hj c => by have := hge j hj; omega)) (by omega), ?_, hB, Nat.le_refl _⟩
  exact Touch.setRow (T := fun _ => False) (((adds_dr w3).alloc _).trans h.2) (fun c => by omega) _
theorem row_ne {w : World} {B : Nat} {e t : TypeId} {v : Value} {n : Nat} {xs : List Value} {N : Nat} {cs : Array Value} (h : w.ownsRow B e 1 v n xs) (hb : w.heap[N]? = some (.cells cs t (0, 0))) (hne : e ≠ t) {j : Nat} (hj : v.ownBlock = some j) (c : j = N) : False := by
  subst c
  obtain ⟨cur, q⟩ := row_type h hj
  rw [hb] at q
  injection q with q1
  injection q1 with _ q2 _
  exact hne q2.symm
theorem chg_end {B : Nat} {w3 w4 w5 w6 : World} {leaf : Bool} {xs ys : List Value} {n m N9 : Nat} {v4 : Value} {a5 : Option Addr} {c5 : Nat} (h : Chg B w3 w4 leaf xs n N9 v4) (h5 : w5.ownsRow w4.heap.size 3 1 (.slice a5 m c5) m ys ∧ Adds w4 w5) (hw : w6 = w5.setCell ⟨N9, 3, none⟩ (.slice a5 m c5)) :
    w6.heap[N9]? = some (.cells #[.bool leaf, v4, .slice none 0 0, .slice a5 m c5] 28 (0, 0)) ∧ (w6.ownsRow B 9 1 v4 n xs ∧ w6.ownsRow w3.heap.size 3 1 (.slice a5 m c5) m ys) ∧ Adds w3 w6 ∧ ∀ N o, w3.heap[N]? = some o → N < w3.heap.size → w6.heap[N]? = some o := by
  subst hw
  have hb := box_adds h.1 h5.2
  have hT : Touch (fun j => j = N9) w5 (w5.setCell ⟨N9, 3, none⟩ (.slice a5 m c5)) := Touch.setCell (T := fun j => j = N9) (Touch.refl _ w5) (p := ⟨N9, 3, none⟩) (fun _ => rfl) _
  have hN := h.2.2.2.2
  have hA := (h.2.2.1.trans h5.2).then hT (fun j hj e => by omega)
  have k1 := row_touch h.2.1 h5.2 (fun _ _ => id)
  refine ⟨by rw [heap_setCell_same w5 N9 3 _ 28 _ hb]; rfl, ⟨row_touch k1 hT (fun j hj c => row_ne k1 hb (by decide) hj c), row_lower (row_touch h5.1 hT (fun j hj c => row_ne h5.1 hb (by decide) hj c)) h.2.2.1.size⟩, hA, fun N o hN hlt => ?_⟩
  rw [hA.block N hlt id]; exact hN
theorem chg_cl {B : Nat} {w3 w4 w5 w6 : World} {kx : List (List UInt8)} {n m N9 : Nat} {v4 : Value} {a6 : Option Addr} {c6 : Nat} {bx : List Part} (h : Chg B w3 w4 true (Ss kx) n N9 v4) (h5 : w5.ownsRow w4.heap.size 30 1 (.slice a6 m c6) m (bx.map PV) ∧ Adds w4 w5) (hw : w6 = w5.setCell ⟨N9, 2, none⟩ (.slice a6 m c6)) (hm : bx.length = m) (hq : ∀ p ∈ bx, PQ w4 (fun j => j < w3.heap.size) p) : Cl B w3 w6 N9 n kx v4 a6 m c6 0 bx bx := by
  subst hw
  have hb := box_adds h.1 h5.2
  have hT : Touch (fun j => j = N9) w5 (w5.setCell ⟨N9, 2, none⟩ (.slice a6 m c6)) := Touch.setCell (T := fun j => j = N9) (Touch.refl _ w5) (p := ⟨N9, 2, none⟩) (fun _ => rfl) _
  have hN := h.2.2.2.2
  have hA := (h.2.2.1.trans h5.2).then hT (fun j hj e => by omega)
  have k1 := row_touch h.2.1 h5.2 (fun _ _ => id)
  have hlow : ∀ j, (Value.slice a6 m c6).ownBlock = some j → w4.heap.size ≤ j := fun j hj => by
    rcases h5.1.2 with ⟨q, _⟩ | ⟨g, cap, cur, q, hb', _⟩
    · rw [q] at hj; cases hj
    · rw [q] at hj
      have e : g = j := Option.some.inj hj
      omega
  refine ⟨by rw [heap_setCell_same w5 N9 2 _ 28 _ hb]; rfl, row_touch k1 hT (fun j hj c => row_ne k1 hb (by decide) hj c), row_lower (row_touch h5.1 hT (fun j hj c => row_ne h5.1 hb (by decide) hj c)) h.2.2.1.size, hm, rfl, fun t _ ht => by omega, fun p hp => ?_, hA⟩
  have hp1 := hq p hp
  refine ⟨fun j u hj => ?_, hp1.non⟩
  obtain ⟨b, o, e, hb3, hc⟩ := hp1.at_ j u hj
  have hlt := World.block_lt_of_cell? w4 _ hc
  have hlt' : b < w4.heap.size := hlt
  have hb3' : b < w3.heap.size := hb3
  have hz4 := h.2.2.1.size
  refine ⟨b, o, e, fun c => by have := hlow b c; omega, ?_⟩
  have hz := h5.2.size
  rw [World.cell?_of_block (w := w4) (by rw [hT.block b (by omega) (by omega), h5.2.block b hlt' id])]
  exact hc
theorem cl_cell {B : Nat} {w3 wx : World} {N9 kl : Nat} {kx : List (List UInt8)} {v4 : Value} {a6 : Option Addr} {m c6 k : Nat} {bx hs : List Part} (h : Cl B w3 wx N9 kl kx v4 a6 m c6 k bx hs) (hk : k < hs.length) : ∃ g, a6 = some ⟨g, 0, none⟩ ∧ wx.cell? ⟨g, k, none⟩ = some (PV hs[k]) := by
  obtain ⟨a', cap', e, _, _, hq⟩ := own_cq h.row
  injection e with e1 e2 e3
  subst e1
  obtain ⟨b, o, e4, hob, hc⟩ := hq k (PV hs[k]) (by rw [List.getElem?_map, List.getElem?_eq_getElem hk]; rfl)
  subst e4
  rcases h.row.2 with ⟨q, h0⟩ | ⟨g, cap2, cur, q, _⟩
  · cases q
  · injection q with q1 q2 q3
    injection q1 with q4
    injection q4 with q5 q6 q7
    subst q6
    exact ⟨b, rfl, by rw [Nat.zero_add] at hc; exact hc⟩
def PRow5 (w : World) (bs : List UInt8) (n : Nat) (e : Ending) (w' : World) : Prop := ∃ a cap, e = .returned (.slice a n cap) ∧ Hid (w'.ownsRow w.heap.size 5 1 (.slice a n cap) n (S bs) ∧ Adds w w')
theorem clone_row (a : Option Addr) (bs : List UInt8) (n cap : Nat) (hn : bs.length = n) (w : World) (hl : n ≤ 1000000) {Q : Nat → Prop} (hA : PQ w Q ⟨a, bs, cap⟩) : Calls Try.prog 74 #[.slice a n cap] w (PRow5 w bs n) := by
  subst hn
  refine (clone_own a bs bs.length cap rfl w hl hA.non hA.at_.at).mono ?_
  rintro e w' ⟨v, rfl, h1, h2⟩
  obtain ⟨a', cap', rfl, _⟩ := own_cq h1
  exact ⟨a', cap', rfl, h1, h2⟩
set_option maxRecDepth 100000 in
set_option maxHeartbeats 8000000 in
theorem nchange_any (x y : NM) (i j : Nat) (w : World) {Q Q' : Nat → Prop} (hx : NQ w Q x) (sx : NS x) (hy : NQ w Q' y) (sy : NS y) (hi : i ≤ x.ks.length) (hj : j ≤ x.ks.length) (hlf : x.leaf = true → x.v.l.length = x.ks.length) (hin : x.leaf = false → x.is.length = x.ks.length) :
    Calls Try.prog 55 #[x.val, .int .i64 (i : Int), .int .i64 (j : Int), y.val] w (PNode w (N.change x.nd i j y.nd)) := by
  have HX := hid hx
  have HY := hid hy
  have HSx := hid sx
  have HSy := hid sy
  obtain ⟨leaf, ka, kc, ks, g, ia, ic, zs⟩ := x
  obtain ⟨yl, yka, ykc, yks, yg, yia, yic, yzs⟩ := y
  have HSp := hid (fun (W : World) (hA : Adds w W) => show Calls Try.prog 61 #[.slice ka ks.length kc, .int .i64 (i : Int), .int .i64 (j : Int), .slice yka yks.length ykc] W (PRowV 9 W (Ss (ks.take i ++ (yks ++ ks.drop j))) (ks.take i ++ (yks ++ ks.drop j)).length) from by
    refine PRowV.of ?_ (len_Ss _)
    rw [show Ss (ks.take i ++ (yks ++ ks.drop j)) = (Ss ks).take i ++ (Ss yks ++ (Ss ks).drop j) by simp [Ss, List.map_take, List.map_drop]]
    exact spliceS_any ka yka (Ss ks) (Ss yks) ks.length kc yks.length ykc i j W (len_Ss ks) (len_Ss yks) HX.out.kr hi hj HSx.out.k HSy.out.k (HX.out.keys.adds hA) (HY.out.keys.adds hA) HX.out.kn HY.out.kn (one_Ss ks) (one_Ss yks))
  have HSb := hid (fun (hl : leaf = true) (W : World) (hA : Adds w W) => show Calls Try.prog 83 #[.slice g.a g.l.length g.cap, .int .i64 (i : Int), .int .i64 (j : Int), .slice yg.a yg.l.length yg.cap] W (PRowV 30 W ((g.l.take i ++ (yg.l ++ g.l.drop j)).map PV) (g.l.take i ++ (yg.l ++ g.l.drop j)).length) from by
    refine PRowV.of ?_ (List.length_map _)
    have e : g.l.length = ks.length := hlf hl
    rw [show (g.l.take i ++ (yg.l ++ g.l.drop j)).map PV = (g.l.map PV).take i ++ (yg.l.map PV ++ (g.l.map PV).drop j) by simp [List.map_take, List.map_drop]]
    exact spliceB_any g.a yg.a (g.l.map PV) (yg.l.map PV) g.l.length g.cap yg.l.length yg.cap i j W (List.length_map _) (List.length_map _) HX.out.vr (by rw [e]; exact hi) (by rw [e]; exact hj) HSx.out.v HSy.out.v (HX.out.vals.at_.adds hA) (HY.out.vals.at_.adds hA) HX.out.vals.non HY.out.vals.non (one_PV _) (one_PV _))
  have HSi := hid (fun (hl : leaf = false) (W : World) (hA : Adds w W) => show Calls Try.prog 82 #[.slice ia zs.length ic, .int .i64 (i : Int), .int .i64 (j : Int), .slice yia yzs.length yic] W (PRowV 3 W (Is (zs.take i ++ (yzs ++ zs.drop j))) (zs.take i ++ (yzs ++ zs.drop j)).length) from by
    refine PRowV.of ?_ (len_Is _)
    have e : zs.length = ks.length := hin hl
    rw [show Is (zs.take i ++ (yzs ++ zs.drop j)) = (Is zs).take i ++ (Is yzs ++ (Is zs).drop j) by simp [Is, List.map_take, List.map_drop]]
    exact spliceI_any ia yia (Is zs) (Is yzs) zs.length ic yzs.length yic i j W (len_Is zs) (len_Is yzs) HX.out.ir (by rw [e]; exact hi) (by rw [e]; exact hj) HSx.out.i HSy.out.i (HX.out.kids.adds hA) (HY.out.kids.adds hA) HX.out.inn HY.out.inn (one_Is zs) (one_Is yzs))
  obtain ⟨kx, hkx⟩ : ∃ kx, kx = ks.take i ++ (yks ++ ks.drop j) := ⟨_, rfl⟩
  obtain ⟨bx, hbx⟩ : ∃ bx, bx = g.l.take i ++ (yg.l ++ g.l.drop j) := ⟨_, rfl⟩
  obtain ⟨ix, hix⟩ : ∃ ix, ix = zs.take i ++ (yzs ++ zs.drop j) := ⟨_, rfl⟩
  rw [← hkx] at HSp
  rw [← hbx] at HSb
  rw [← hix] at HSi
  obtain ⟨kl, hkl⟩ : ∃ kl, kl = kx.length := ⟨_, rfl⟩
  obtain ⟨bl, hbl⟩ : ∃ bl, bl = bx.length := ⟨_, rfl⟩
  obtain ⟨il, hil⟩ : ∃ il, il = ix.length := ⟨_, rfl⟩
  rw [← hkl] at HSp
  rw [← hbl] at HSb
  rw [← hil] at HSi
  have HLs := hid (And.intro hkl (And.intro hbl hil))
  have HBq := hid (show ∀ p ∈ bx, PQ w (fun _ => True) p from fun p hp => by
    rw [hbx] at hp
    rcases List.mem_append.1 hp with hp | hp
    · exact (hx.vals.all p (List.mem_of_mem_take hp)).mono (fun _ _ _ => trivial)
    · rcases List.mem_append.1 hp with hp | hp
      · exact (hy.vals.all p hp).mono (fun _ _ _ => trivial)
      · exact (hx.vals.all p (List.mem_of_mem_drop hp)).mono (fun _ _ _ => trivial))
  have HBl := hid (show ∀ p ∈ bx, p.bs.length ≤ 1000 from fun p hp => by
    rw [hbx] at hp
    rcases List.mem_append.1 hp with hp | hp
    · exact sx.vl p (List.mem_of_mem_take hp)
    · rcases List.mem_append.1 hp with hp | hp
      · exact sy.vl p hp
      · exact sx.vl p (List.mem_of_mem_drop hp))
  obtain ⟨nd, hnd⟩ : ∃ nd, nd = N.change (NM.nd ⟨leaf, ka, kc, ks, g, ia, ic, zs⟩) i j (NM.nd ⟨yl, yka, ykc, yks, yg, yia, yic, yzs⟩) := ⟨_, rfl⟩
  rw [← hnd]
  have HNd := hid (show nd = ⟨leaf, kx, if leaf then bx.map (·.bs) else [], if leaf then [] else ix⟩ by
    rw [hnd, hkx, hbx, hix]
    cases leaf <;> simp [N.change, NM.nd, Pl.bs, List.map_take, List.map_drop])
  have HLf := hid hlf
  have HIn := hid hin
  have hi9 : i ≤ 1000 := by have := sx.k; have : i ≤ ks.length := hi; omega
  have hj9 : j ≤ 1000 := by have := sx.k; have : j ≤ ks.length := hj; omega
  have HIJ := hid (And.intro (show i ≤ ks.length from hi) (show j ≤ ks.length from hj))
  have hbl9 : bl ≤ 3000 := by
    have h1 := sx.v
    have h2 := sy.v
    rw [hbl, hbx, List.length_append, List.length_append, List.length_take, List.length_drop]
    simp only [] at h1 h2
    omega
  clear hx hy sx sy hkx hbx hix hkl hbl hil hnd hlf hin hi hj
  unfold NM.val NM.kv NM.vv NM.iv
  simp only []
  obtain ⟨va, hva⟩ : ∃ va, va = g.a := ⟨_, rfl⟩
  obtain ⟨vc, hvc⟩ : ∃ vc, vc = g.cap := ⟨_, rfl⟩
  obtain ⟨yva, hyva⟩ : ∃ va, va = yg.a := ⟨_, rfl⟩
  obtain ⟨yvc, hyvc⟩ : ∃ vc, vc = yg.cap := ⟨_, rfl⟩
  obtain ⟨kn, hkn⟩ : ∃ n, n = ks.length := ⟨_, rfl⟩
  obtain ⟨vn, hvn⟩ : ∃ n, n = g.l.length := ⟨_, rfl⟩
  obtain ⟨zn, hzn⟩ : ∃ n, n = zs.length := ⟨_, rfl⟩
  obtain ⟨ykn, hykn⟩ : ∃ n, n = yks.length := ⟨_, rfl⟩
  obtain ⟨yvn, hyvn⟩ : ∃ n, n = yg.l.length := ⟨_, rfl⟩
  obtain ⟨yzn, hyzn⟩ : ∃ n, n = yzs.length := ⟨_, rfl⟩
  simp only [← hva, ← hvc, ← hyva, ← hyvc, ← hkn, ← hvn, ← hzn, ← hykn, ← hyvn, ← hyzn]
  rw [← hkn, ← hykn] at HSp
  rw [← hva, ← hvc, ← hyva, ← hyvc, ← hvn, ← hyvn] at HSb
  rw [← hzn, ← hyzn] at HSi
  have HLet := hid (show va = g.a ∧ vc = g.cap ∧ yva = yg.a ∧ yvc = yg.cap ∧ kn = ks.length ∧ vn = g.l.length ∧ zn = zs.length ∧ ykn = yks.length ∧ yvn = yg.l.length ∧ yzn = yzs.length from ⟨hva, hvc, hyva, hyvc, hkn, hvn, hzn, hykn, hyvn, hyzn⟩)
  clear hva hvc hyva hyvc hkn hvn hzn hykn hyvn hyzn
  obtain ⟨N0, hN0⟩ : ∃ N0, N0 = w.heap.size := ⟨_, rfl⟩
  obtain ⟨N1, hN1⟩ : ∃ N1, N1 = N0 + 1 := ⟨_, rfl⟩
  obtain ⟨N2, hN2⟩ : ∃ N2, N2 = N1 + 1 := ⟨_, rfl⟩
  obtain ⟨w3, hw3⟩ : ∃ w3, w3 = ((w.alloc (.cells #[.bool leaf, .slice ka kn kc, .slice va vn vc, .slice ia zn ic] 28)).alloc (.cells #[.bool yl, .slice yka ykn ykc, .slice yva yvn yvc, .slice yia yzn yic] 28)).alloc NZ := ⟨_, rfl⟩
  have HA3 := hid (show Adds w w3 by rw [hw3]; exact (((Touch.refl _ w).alloc _).alloc _).alloc _)
  have hbx : w3.heap[N0]? = some (.cells #[.bool leaf, .slice ka kn kc, .slice va vn vc, .slice ia zn ic] 28) := by rw [hw3, hN0]; exact box_adds (heap_alloc_new w _) (((Touch.refl _ _).alloc _).alloc _)
  have hby : w3.heap[N1]? = some (.cells #[.bool yl, .slice yka ykn ykc, .slice yva yvn yvc, .slice yia yzn yic] 28) := by
    rw [hw3, hN1, hN0, ← show (w.alloc (.cells #[.bool leaf, .slice ka kn kc, .slice va vn vc, .slice ia zn ic] 28)).heap.size = w.heap.size + 1 by simp]
    exact box_adds (heap_alloc_new _ _) ((Touch.refl _ _).alloc _)
  have hbz : w3.heap[N2]? = some NZ := by
    rw [hw3, hN2, hN1, hN0, ← show ((w.alloc (.cells #[.bool leaf, .slice ka kn kc, .slice va vn vc, .slice ia zn ic] 28)).alloc (.cells #[.bool yl, .slice yka ykn ykc, .slice yva yvn yvc, .slice yia yzn yic] 28)).heap.size = w.heap.size + 1 + 1 by simp]
    exact heap_alloc_new _ _
  have HZ := hid hbz
  have HN2 := hid (show w.heap.size ≤ N2 by omega)
  have HW3 := hid (show w3.heap.size = N2 + 1 by rw [hw3, hN2, hN1, hN0]; simp)
  obtain ⟨x0, x1, x2, x3⟩ := box_cells hbx
  obtain ⟨_, y1, y2, y3⟩ := box_cells hby
  have X0 := hid x0
  have X1 := hid x1
  have X2 := hid x2
  have X3 := hid x3
  have Y1 := hid y1
  have Y2 := hid y2
  have Y3 := hid y3
  clear hbx hby hbz x0 x1 x2 x3 y1 y2 y3
  go_enter Try.func55, Try.ntmps55
  go_upto_region 1 with fail
  rw [← hw3, ← hN0, ← hN1, ← hN2]
  have HB := hid (show w.heap.size ≤ w3.heap.size from HA3.out.size)
  clear hw3 hN0 hN1 hN2
  go_cut [9] (fun p wx => ∃ N9 a4 c4, p = .pointer (some ⟨N9, 0, none⟩) ∧ Hid (Chg w.heap.size w3 wx leaf (Ss kx) kl N9 (.slice a4 kl c4)))
  case first =>
    refine Pe_begin (S := fun W : World => Adds w3 W) (X := 12) (by kernel_rfl) ?_
    have hS : (fun W : World => Adds w3 W) w3.drew := adds_dr w3
    refine Pe_put (i := 0) 12 (v := .pointer (some ⟨N0, 0, none⟩)) rfl rfl (by kernel_rfl) (by kernel_rfl) (by kernel_rfl) (by kernel_rfl) (fun _ _ _ h => h) (Or.inl ⟨by rfl, fun w' hw' => ?_⟩) hS ?_
    · go_simp
    simp only [Act.put, List.setIfInBounds_toArray, List.set_cons_zero, List.set_cons_succ]
    refine Pe_put (i := 1) 13 (v := .bool leaf) rfl rfl (by kernel_rfl) (by kernel_rfl) (by kernel_rfl) (by kernel_rfl) (fun _ _ _ h => h) (Or.inl ⟨by rfl, fun w' hw' => ?_⟩) hS ?_
    · (have c := below_adds hw' X0.out; clear hw'; go_simp)
    simp only [Act.put, List.setIfInBounds_toArray, List.set_cons_zero, List.set_cons_succ]
    refine Pe_put (i := 2) 14 (v := .pointer (some ⟨N0, 1, none⟩)) rfl rfl (by kernel_rfl) (by kernel_rfl) (by kernel_rfl) (by kernel_rfl) (fun _ _ _ h => h) (Or.inl ⟨by rfl, fun w' hw' => ?_⟩) hS ?_
    · go_simp
    simp only [Act.put, List.setIfInBounds_toArray, List.set_cons_zero, List.set_cons_succ]
    refine Pe_put (i := 3) 15 (v := .slice ka kn kc) rfl rfl (by kernel_rfl) (by kernel_rfl) (by kernel_rfl) (by kernel_rfl) (fun _ _ _ h => h) (Or.inl ⟨by rfl, fun w' hw' => ?_⟩) hS ?_
    · (have c := below_adds hw' X1.out; clear hw'; go_simp)
    simp only [Act.put, List.setIfInBounds_toArray, List.set_cons_zero, List.set_cons_succ]
    refine Pe_put (i := 4) 16 (v := .int .i64 (i : Int)) rfl rfl (by kernel_rfl) (by kernel_rfl) (by kernel_rfl) (by kernel_rfl) (fun _ _ _ h => h) (Or.inl ⟨by rfl, fun w' hw' => ?_⟩) hS ?_
    · go_simp
    simp only [Act.put, List.setIfInBounds_toArray, List.set_cons_zero, List.set_cons_succ]
    refine Pe_put (i := 5) 17 (v := .int .i64 (j : Int)) rfl rfl (by kernel_rfl) (by kernel_rfl) (by kernel_rfl) (by kernel_rfl) (fun _ _ _ h => h) (Or.inl ⟨by rfl, fun w' hw' => ?_⟩) hS ?_
    · go_simp
    simp only [Act.put, List.setIfInBounds_toArray, List.set_cons_zero, List.set_cons_succ]
    refine Pe_put (i := 6) 18 (v := .pointer (some ⟨N1, 1, none⟩)) rfl rfl (by kernel_rfl) (by kernel_rfl) (by kernel_rfl) (by kernel_rfl) (fun _ _ _ h => h) (Or.inl ⟨by rfl, fun w' hw' => ?_⟩) hS ?_
    · go_simp
    simp only [Act.put, List.setIfInBounds_toArray, List.set_cons_zero, List.set_cons_succ]
    refine Pe_put (i := 7) 19 (v := .slice yka ykn ykc) rfl rfl (by kernel_rfl) (by kernel_rfl) (by kernel_rfl) (by kernel_rfl) (fun _ _ _ h => h) (Or.inl ⟨by rfl, fun w' hw' => ?_⟩) hS ?_
    · (have c := below_adds hw' Y1.out; clear hw'; go_simp)
    simp only [Act.put, List.setIfInBounds_toArray, List.set_cons_zero, List.set_cons_succ]
    refine Pe_all (rs := [8, 10]) (by kernel_rfl) (by simp) (fun jj hj => ?_)
    simp only [List.mem_cons, List.not_mem_nil, or_false] at hj
    rcases hj with rfl | rfl
    · refine EO_call 20 61 #[.slice ka kn kc, .int .i64 (i : Int), .int .i64 (j : Int), .slice yka ykn ykc] rfl rfl (by rfl) (by go_simp) (HSp.out _ (HA3.out.trans (adds_dr w3))) ?_
      rintro e w4 ⟨a4, c4, rfl, H4⟩
      have hS2 : (fun W : World => Adds w3 W) w4 := (adds_dr w3).trans H4.out.2
      have hv4 : (Value.slice a4 kl c4).oneCell' = true := rfl
      refine ⟨_, rfl, hS2, ?_⟩
      clear hS; have hS := hS2; clear hS2
      simp only [Act.put, List.setIfInBounds_toArray, List.set_cons_zero, List.set_cons_succ]
      refine Pe_put (i := 9) 21 (v := .agg #[.bool leaf, .slice a4 kl c4, .slice none 0 0, .slice none 0 0]) rfl rfl (by kernel_rfl) (by kernel_rfl) (by kernel_rfl) (by kernel_rfl) (fun _ _ _ h => h) (Or.inl ⟨by rfl, fun w' hw' => ?_⟩) hS ?_
      · go_simp
      simp only [Act.put, List.setIfInBounds_toArray, List.set_cons_zero, List.set_cons_succ]
      refine Pe_all (rs := [10]) (by kernel_rfl) (by simp) (fun jj hj => ?_)
      obtain rfl := List.mem_singleton.1 hj
      have hS2 : (fun W : World => Adds w3 W) (w4.alloc NZ) := hS.alloc _
      refine EO_value 9 (v := .pointer (some ⟨w4.heap.size, 0, none⟩)) (w' := w4.alloc NZ) rfl rfl (by rfl) (by go_simp) hS2 ?_
      simp only [Act.put, List.setIfInBounds_toArray, List.set_cons_zero, List.set_cons_succ]
      have HEnd := chg_a (leaf := leaf) (B := w.heap.size) hS H4.out (Nat.le_trans HB.out (adds_dr w3).size)
      have HEnd2 := hid HEnd
      refine Pe_do (i := 11) none (by kernel_rfl) rfl rfl rfl (fun K' hK => ?_)
      refine Go.wp_store_row 28 _ _ rfl w4.heap.size #[.bool leaf, .slice a4 kl c4, .slice none 0 0, .slice none 0 0] rfl rfl 28 _ (heap_alloc_new w4 _) (info4 _ _ _ _) rfl (one4v leaf hv4) ?_
      refine hK _ _ (fun _ => HEnd.2.2.1) (Pe_done (by kernel_rfl) ?_ _)
      clear hS
      simp only [Act.put]
      go_wp2
      go_meet
      case rel => exact ⟨w4.heap.size, a4, c4, rfl, HEnd2⟩
    · have hS2 : (fun W : World => Adds w3 W) (w3.drew.alloc NZ) := (adds_dr w3).alloc _
      refine EO_value 9 (v := .pointer (some ⟨w3.heap.size, 0, none⟩)) (w' := w3.drew.alloc NZ) rfl rfl (by rfl) (by go_simp) hS2 ?_
      clear hS; have hS := hS2; clear hS2
      simp only [Act.put, List.setIfInBounds_toArray, List.set_cons_zero, List.set_cons_succ]
      refine Pe_call (i := 8) 20 61 #[.slice ka kn kc, .int .i64 (i : Int), .int .i64 (j : Int), .slice yka ykn ykc] (by kernel_rfl) rfl rfl (by rfl) (by go_simp) (HSp.out _ (HA3.out.trans hS)) ?_
      rintro e w4 ⟨a4, c4, rfl, H4⟩
      have hS2 : (fun W : World => Adds w3 W) w4 := hS.trans H4.out.2
      have hv4 : (Value.slice a4 kl c4).oneCell' = true := rfl
      refine ⟨_, rfl, fun _ => hS2, ?_⟩
      clear hS; have hS := hS2; clear hS2
      simp only [Act.put, List.setIfInBounds_toArray, List.set_cons_zero, List.set_cons_succ]
      refine Pe_put (i := 9) 21 (v := .agg #[.bool leaf, .slice a4 kl c4, .slice none 0 0, .slice none 0 0]) rfl rfl (by kernel_rfl) (by kernel_rfl) (by kernel_rfl) (by kernel_rfl) (fun _ _ _ h => h) (Or.inl ⟨by rfl, fun w' hw' => ?_⟩) hS ?_
      · go_simp
      simp only [Act.put, List.setIfInBounds_toArray, List.set_cons_zero, List.set_cons_succ]
      have HEnd := chg_b (leaf := leaf) (B := w.heap.size) H4.out HB.out
      have HEnd2 := hid HEnd
      refine Pe_do (i := 11) none (by kernel_rfl) rfl rfl rfl (fun K' hK => ?_)
      refine Go.wp_store_row 28 _ _ rfl w3.heap.size #[.bool leaf, .slice a4 kl c4, .slice none 0 0, .slice none 0 0] rfl rfl 28 _ (box_adds (heap_alloc_new w3.drew NZ) H4.out.2) (info4 _ _ _ _) rfl (one4v leaf hv4) ?_
      refine hK _ _ (fun _ => HEnd.2.2.1) (Pe_done (by kernel_rfl) ?_ _)
      clear hS
      simp only [Act.put]
      go_wp2
      go_meet
      case rel => exact ⟨w3.heap.size, a4, c4, rfl, HEnd2⟩
  case rest =>
    obtain ⟨N9, a4, c4, rfl, HCg⟩ := hcut
    have hA := HCg.out.2.2.1
    have x0 := below_adds hA X0.out
    cases leaf with
    | false =>
      have x3 := below_adds hA X3.out
      have y3 := below_adds hA Y3.out
      have HSp2 := hid (HSi.out rfl wc (HA3.out.trans hA))
      have HBox := hid HCg.out.1
      go_upto_region 4 with (first
        | (go_at_call 82; refine HSp2.out.mono ?_; rintro e w5 ⟨a5, c5, rfl, H5⟩; have z9 := box_cells (box_adds HBox.out H5.out.2); have f9 := box_free (box_adds HBox.out H5.out.2) 3; obtain ⟨_, _, _, z93⟩ := z9))
      clear x0 x3 y3 z93 f9
      obtain ⟨w6, hw6⟩ : ∃ w6, w6 = w5.setCell ⟨N9, 3, none⟩ (.slice a5 il c5) := ⟨_, rfl⟩
      have HE := hid (chg_end HCg.out H5.out hw6)
      rw [← hw6]
      clear hw6
      have HZ6 := hid (HE.out.2.2.2 N2 NZ HZ.out (by have := HW3.out; omega))
      go_wp2_with (first
        | (refine wpList_load_row rfl 28 _ rfl N9 rfl 28 _ _ _ HE.out.1 Try.underlying28 rfl (info4 _ _ _ _) ?_)
        | (refine wpList_store_row rfl 28 _ _ rfl N2 #[.bool false, .slice a4 kl c4, .slice none 0 0, .slice a5 il c5] rfl rfl 28 _ HZ6.out (info4 _ _ _ _) rfl (one4 _ _ _ _ _ _ _ _ _ _) ?_))
      refine bodyPost_ret (results_n1 rfl _ _ N2 _ rfl (setRow_heap w6 N2 _ _ 28 _ HZ6.out) rfl) rfl ?_
      have hkl := HLs.out.1
      have hil := HLs.out.2.2
      have HE2 := HE.out
      have hZ6 := HZ6.out
      generalize hw7 : w6.setRow N2 #[.bool false, .slice a4 kl c4, .slice none 0 0, .slice a5 il c5] = w7
      have hT : Touch (fun j => j = N2) w6 w7 := by rw [← hw7]; exact Touch.setRow (T := fun j => j = N2) (Touch.refl _ _) (fun _ => rfl) _
      have hA7 : Adds w w7 := (HA3.out.trans HE2.2.2.1).then hT (fun j hj e => by have := HN2.out; omega)
      have k1 := row_touch HE2.2.1.1 hT (fun j hj c => row_ne HE2.2.1.1 hZ6 (by decide) hj c)
      have k2 := row_lower (row_touch HE2.2.1.2 hT (fun j hj c => row_ne HE2.2.1.2 hZ6 (by decide) hj c)) HA3.out.size
      have hnd := HNd.out
      clear hT hw7 HE HE2 HZ6 hZ6
      subst hkl
      subst hil
      exact ⟨⟨false, a4, c4, kx, ⟨none, 0, []⟩, a5, c5, ix⟩, rfl, by rw [hnd]; rfl, ⟨k1, World.ownsRow_nil _ _ _ _, fun p hp => (by cases hp), k2⟩, hA7⟩
    | true =>
      have x2 := below_adds hA X2.out
      have y2 := below_adds hA Y2.out
      have HSp2 := hid (HSb.out rfl wc (HA3.out.trans hA))
      have HBox := hid HCg.out.1
      go_upto_region 6 with (first
        | (go_at_call 83; refine HSp2.out.mono ?_; rintro e w5 ⟨a6, c6, rfl, H5⟩; have z9 := box_cells (box_adds HBox.out H5.out.2); have f9 := box_free (box_adds HBox.out H5.out.2) 2; obtain ⟨_, _, z92, _⟩ := z9))
      clear x0 x2 y2 z92 f9
      obtain ⟨w6, hw6⟩ : ∃ w6, w6 = w5.setCell ⟨N9, 2, none⟩ (.slice a6 bl c6) := ⟨_, rfl⟩
      have HE := hid (chg_cl HCg.out H5.out hw6 HLs.out.2.1.symm (fun p hp => ((HBq.out p hp).mono (fun j hj _ => Nat.lt_of_lt_of_le hj HB.out)).adds (HA3.out.trans hA)))
      have HWc := hid hA
      rw [← hw6]
      clear hw6 hA
      obtain ⟨_, _, z2, _⟩ := box_cells HE.out.box
      go_wp2_with fail
      clear z2
      go_loopw [45] (fun t wx => ∃ (k : Nat) (hs : List Part), k ≤ bl ∧ t = .int .i64 (k : Int) ∧ Hid (Cl w.heap.size w3 wx N9 kl kx (.slice a4 kl c4) a6 bl c6 k bx hs)) (fun t _ => bl - (intOf t).toNat)
      case atStart => exact ⟨0, bx, Nat.zero_le _, rfl, HE.out⟩
      case round =>
        obtain ⟨k, hs, hk, rfl, HI⟩ := hrel
        by_cases hlt : k < bl
        · have hlz : (k : Int) < (bl : Int) := by omega
          have hkh : k < hs.length := by rw [HI.out.len]; exact hlt
          obtain ⟨y, hy⟩ : ∃ y, y = hs[k] := ⟨_, rfl⟩
          obtain ⟨yn, hyn⟩ : ∃ yn, yn = y.bs.length := ⟨_, rfl⟩
          have hym : y ∈ hs := by rw [hy]; exact List.getElem_mem hkh
          obtain ⟨g6, e6, hcell⟩ := cl_cell HI.out hkh
          rw [← hy] at hcell
          have hcell' : wr.cell? ⟨g6, k, none⟩ = some (.slice y.a yn y.cap) := by rw [hyn]; exact hcell
          have hb9 : yn ≤ 1000 := by
            have q : y.bs ∈ hs.map (·.bs) := List.mem_map.2 ⟨y, hym, rfl⟩
            rw [HI.out.bs] at q
            obtain ⟨p, hp, e⟩ := List.mem_map.1 q
            rw [hyn, ← e]
            exact HBl.out p hp
          have HCl := hid (fun (W : World) (hA : Adds wr W) => show Calls Try.prog 74 #[.slice y.a yn y.cap] W (PRow5 W y.bs yn) from clone_row y.a y.bs yn y.cap hyn.symm W (by omega) ((HI.out.left y hym).adds hA))
          have HSt := hid (fun (w8 : World) (a7 : Option Addr) (c7 : Nat) (h8 : w8.ownsRow wr.heap.size 5 1 (.slice a7 yn c7) yn (S y.bs) ∧ Adds wr w8) => show w8.frozen? ⟨g6, k, none⟩ = false ∧ (w8.cell? ⟨g6, k, none⟩).isSome = true ∧ Cl w.heap.size w3 (w8.setCell ⟨g6, k, none⟩ (.slice a7 yn c7)) N9 kl kx (.slice a4 kl c4) a6 bl c6 (k + 1) bx (hs.set k ⟨a7, y.bs, c7⟩) by
            subst hy
            obtain ⟨g, q1, q2, q3, q4⟩ := HI.out.step hkh hyn h8
            rw [e6] at q1
            injection q1 with q5
            injection q5 with q6 _ _
            subst q6
            exact ⟨q2, q3, q4⟩)
          have HBx := hid HI.out.box
          rw [e6] at HBx HI
          subst e6
          obtain ⟨ya, hya⟩ : ∃ ya, ya = y.a := ⟨_, rfl⟩
          obtain ⟨yc, hyc⟩ : ∃ yc, yc = y.cap := ⟨_, rfl⟩
          rw [← hya, ← hyc] at hcell' HCl
          clear hcell hym hy hyn hya hyc hkh
          go_upto_region 9 with fail
          clear hcell'
          refine Pe_begin (S := fun W : World => Adds wr W) (X := 6) (by kernel_rfl) ?_
          have hS : (fun W : World => Adds wr W) wr.drew := adds_dr wr
          refine Pe_put (i := 0) 50 (v := .pointer (some ⟨N9, 2, none⟩)) rfl rfl (by kernel_rfl) (by kernel_rfl) (by kernel_rfl) (by kernel_rfl) (fun _ _ _ h => h) (Or.inl ⟨by rfl, fun w' hw' => ?_⟩) hS ?_
          · go_simp
          simp only [Act.put, List.setIfInBounds_toArray, List.set_cons_zero, List.set_cons_succ]
          refine Pe_put (i := 1) 51 (v := .slice (some ⟨g6, 0, none⟩) bl c6) rfl rfl (by kernel_rfl) (by kernel_rfl) (by kernel_rfl) (by kernel_rfl) (fun _ _ _ h => h) (Or.inl ⟨by rfl, fun w' hw' => ?_⟩) hS ?_
          · (have c := (box_cells (box_adds HBx.out hw')).2.2.1; clear hw'; go_simp)
          simp only [Act.put, List.setIfInBounds_toArray, List.set_cons_zero, List.set_cons_succ]
          refine Pe_put (i := 2) 52 (v := .int .i64 (k : Int)) rfl rfl (by kernel_rfl) (by kernel_rfl) (by kernel_rfl) (by kernel_rfl) (fun _ _ _ h => h) (Or.inl ⟨by rfl, fun w' hw' => ?_⟩) hS ?_
          · go_simp
          simp only [Act.put, List.setIfInBounds_toArray, List.set_cons_zero, List.set_cons_succ]
          refine Pe_put (i := 3) 53 (v := .slice ya yn yc) rfl rfl (by kernel_rfl) (by kernel_rfl) (by kernel_rfl) (by kernel_rfl) (fun _ _ _ h => h) (Or.inl ⟨by rfl, fun w' hw' => ?_⟩) hS ?_
          · go_simp
          simp only [Act.put, List.setIfInBounds_toArray, List.set_cons_zero, List.set_cons_succ]
          refine Pe_call (i := 4) 54 74 #[.slice ya yn yc] (by kernel_rfl) rfl rfl (by rfl) (by go_simp) (HCl.out _ (adds_dr wr)) ?_
          rintro e w8 ⟨a7, c7, rfl, H8⟩
          have h82 := (adds_dr wr).trans H8.out.2
          refine ⟨_, rfl, fun _ => h82, ?_⟩
          clear hS
          have hS : (fun W : World => Adds wr W) w8 := h82
          simp only [Act.put, List.setIfInBounds_toArray, List.set_cons_zero, List.set_cons_succ]
          refine Pe_put (i := 5) 55 (v := .pointer (some ⟨g6, k, none⟩)) rfl rfl (by kernel_rfl) (by kernel_rfl) (by kernel_rfl) (by kernel_rfl) (fun _ _ _ h => h) (Or.inl ⟨by rfl, fun w' hw' => ?_⟩) hS ?_
          · go_simp
          simp only [Act.put, List.setIfInBounds_toArray, List.set_cons_zero, List.set_cons_succ]
          have HQ := hid (HSt.out w8 a7 c7 ⟨H8.out.1, h82⟩)
          have q1 := HQ.out.1
          have q2 := HQ.out.2.1
          obtain ⟨u9, q3⟩ := Option.isSome_iff_exists.1 q2
          refine Pe_do (i := 6) none (by kernel_rfl) rfl rfl rfl (fun K' hK => ?_)
          clear hS q2
          go_simp
          refine hK undef _ (fun h => absurd rfl h) (Pe_done (by kernel_rfl) ?_ _)
          clear q1 q3
          simp only [Act.put]
          go_wp2
          go_roundw
          case rel => exact ⟨k + 1, _, by omega, by go_num, HQ.out.2.2⟩
          case measure => simp [intOf]; omega
        · obtain rfl : k = bl := by omega
          have hlz : ¬ (k : Int) < (k : Int) := by omega
          have HZ6 := hid (box_adds HZ.out HI.out.adds)
          go_wp2_with (first
            | (refine wpList_load_row rfl 28 _ rfl N9 rfl 28 _ _ _ HI.out.box Try.underlying28 rfl (info4 _ _ _ _) ?_)
            | (refine wpList_store_row rfl 28 _ _ rfl N2 #[.bool true, .slice a4 kl c4, .slice a6 k c6, .slice none 0 0] rfl rfl 28 _ HZ6.out (info4 _ _ _ _) rfl (one4 _ _ _ _ _ _ _ _ _ _) ?_))
          refine bodyPost_ret (results_n1 rfl _ _ N2 _ rfl (setRow_heap wr N2 _ _ 28 _ HZ6.out) rfl) rfl ?_
          have hkl := HLs.out.1
          have HI2 := HI.out
          have hZ6 := HZ6.out
          generalize hw7 : wr.setRow N2 #[.bool true, .slice a4 kl c4, .slice a6 k c6, .slice none 0 0] = w7
          have hT : Touch (fun j => j = N2) wr w7 := by rw [← hw7]; exact Touch.setRow (T := fun j => j = N2) (Touch.refl _ _) (fun _ => rfl) _
          have hA7 : Adds w w7 := (HA3.out.trans HI2.adds).then hT (fun j hj e => by have := HN2.out; omega)
          have k1 := row_touch HI2.keys hT (fun j hj c => row_ne HI2.keys hZ6 (by decide) hj c)
          have k2 := row_lower (row_touch HI2.row hT (fun j hj c => row_ne HI2.row hZ6 (by decide) hj c)) HA3.out.size
          have k3 : ∀ p ∈ hs, w7.ownsRow w.heap.size 5 1 (PV p) p.bs.length (S p.bs) := fun p hp => by
            obtain ⟨t, ht, rfl⟩ := List.getElem_of_mem hp
            have q := HI2.done t ht (by rw [HI2.len] at ht; exact ht)
            exact row_lower (row_touch q hT (fun j hj c => row_ne q hZ6 (by decide) hj c)) HA3.out.size
          have hnd := HNd.out
          have hlen := HI2.len
          have hbs := HI2.bs
          clear hT hw7 HI HI2 HZ6 hZ6
          subst hkl
          subst hlen
          exact ⟨⟨true, a4, c4, kx, ⟨a6, c6, hs⟩, none, 0, []⟩, rfl, by rw [hnd]; show (⟨true, kx, hs.map (·.bs), []⟩ : N.Nd) = _; rw [hbs]; rfl, ⟨k1, k2, fun p hp => PT.row (k3 p hp), World.ownsRow_nil _ _ _ _⟩, hA7⟩
end Go.Proofs.Ytplppnngmlljnaa

/- A node without some of its cells. -/
namespace Go.Proofs.Ytplppnngmlljnaa
open Go.RowKit

/-- A block that is a node's box turns: rows stay. -/
theorem NOwn.touch {w w' : World} {B N : Nat} {z : NM} {cs : Array Value} (h : NOwn w B z) (hT : Touch (fun j => j = N) w w') (hb : w.heap[N]? = some (.cells cs 28 (0, 0))) : NOwn w' B z :=
  ⟨row_touch h.keys hT (fun j hj c => row_ne h.keys hb (by decide) hj c), row_touch h.vals hT (fun j hj c => row_ne h.vals hb (by decide) hj c), fun p hp => (h.each p hp).touch hT (fun k hk cs' fr e => by subst hk; rw [hb] at e; injection e with e1; injection e1 with _ e2 _; exact absurd e2 (by decide)), row_touch h.kids hT (fun j hj c => row_ne h.kids hb (by decide) hj c)⟩
theorem touch_row (w : World) (N : Nat) (cs : Array Value) : Touch (fun j => j = N) w (w.setRow N cs) := Touch.setRow (T := fun j => j = N) (Touch.refl _ w) (fun _ => rfl) _
theorem NOwn.fresh {w : World} {B : Nat} {z : NM} (h : NOwn w B z) (o : Obj) : NOwn (w.alloc o) B z := h.adds ((Touch.refl _ w).alloc o)
/-- A node is the result. -/
theorem pnode_end {w wE : World} {N1 : Nat} {z : NM} {n : N.Nd} {cs : Array Value} (hz : z.nd = n) (ho : NOwn wE w.heap.size z) (hA : Adds w wE) (hN : wE.heap[N1]? = some (.cells cs 28 (0, 0))) (hge : w.heap.size ≤ N1) (cs' : Array Value) : PNode w n (.returned z.val) (wE.setRow N1 cs') :=
  ⟨z, rfl, hz, ho.touch (touch_row wE N1 cs') hN, hA.then (touch_row wE N1 cs') (fun j hj e => by omega)⟩
theorem ptnode_end {w wE : World} {N1 : Nat} {z : NM} {R : N.Nd × Nat} {cs : Array Value} {er : Int} (hz : z.nd = R.1) (he : er = (R.2 : Int)) (ho : NOwn wE w.heap.size z) (hA : Adds w wE) (hN : wE.heap[N1]? = some (.cells cs 28 (0, 0))) (hge : w.heap.size ≤ N1) (cs' : Array Value) : PTnode w R (.returned (.tuple #[z.val, .int .i64 er])) (wE.setRow N1 cs') :=
  ⟨z, by rw [he], hz, ho.touch (touch_row wE N1 cs') hN, hA.then (touch_row wE N1 cs') (fun j hj e => by omega)⟩
theorem PNode.op {w : World} {n : N.Nd} {e : Ending} {w' : World} (h : PNode w n e w') : ∃ leaf ka kc ks va vc, ∃ hs : List Part, ∃ ia ic zs, e = .returned (.agg #[.bool leaf, .slice ka ks.length kc, .slice va hs.length vc, .slice ia zs.length ic]) ∧ Hid ((⟨leaf, ks, hs.map (·.bs), zs⟩ : N.Nd) = n ∧ NOwn w' w.heap.size ⟨leaf, ka, kc, ks, ⟨va, vc, hs⟩, ia, ic, zs⟩ ∧ Adds w w') := by
  obtain ⟨z, rfl, H⟩ := h
  exact ⟨z.leaf, z.ka, z.kc, z.ks, z.v.a, z.v.cap, z.v.l, z.ia, z.ic, z.is, rfl, H.out⟩
/-- The box of a node that was handed in, and the block of the result. -/
theorem nopen (w : World) (bx : Array Value) : ∃ N0 N1 w2, N0 = w.heap.size ∧ N1 = N0 + 1 ∧ w2 = (w.alloc (.cells bx 28)).alloc NZ ∧ Hid (Adds w w2) ∧ Hid (w2.heap[N0]? = some (.cells bx 28)) ∧ Hid (w2.heap[N1]? = some NZ) ∧ Hid (w.heap.size ≤ N1) := by
  refine ⟨_, _, _, rfl, rfl, rfl, ((Touch.refl _ w).alloc _).alloc _, box_adds (heap_alloc_new w _) ((Touch.refl _ _).alloc _), ?_, ?_⟩
  · show ((w.alloc (.cells bx 28)).alloc NZ).heap[w.heap.size + 1]? = some NZ
    rw [← show (w.alloc (.cells bx 28)).heap.size = w.heap.size + 1 by simp]
    exact heap_alloc_new _ _
  · show w.heap.size ≤ w.heap.size + 1
    omega
theorem NS.none : NS NM.none := ⟨by decide, by decide, by decide, fun b hb => (by cases hb), fun b hb => (by cases hb)⟩
theorem NQ.none (w : World) : NQ w (fun _ => True) NM.none := (NOwn.none w 0).nq.any
/-- The first key becomes the empty text. -/
theorem nown_first {w : World} {B : Nat} {leaf : Bool} {g kc : Nat} {ks : List (List UInt8)} {v : Pl} {ia : Option Addr} {ic : Nat} {zs : List Int} (h : NOwn w B ⟨leaf, some ⟨g, 0, none⟩, kc, ks, v, ia, ic, zs⟩) (h0 : 0 < ks.length)
    (hr : (w.setCell ⟨g, 0, none⟩ (Str [])).ownsRow B 9 1 (.slice (some ⟨g, 0, none⟩) ks.length kc) ks.length ((Ss ks).set 0 (Str []))) : NOwn (w.setCell ⟨g, 0, none⟩ (Str [])) B ⟨leaf, some ⟨g, 0, none⟩, kc, [] :: ks.tail, v, ia, ic, zs⟩ := by
  have hT : Touch (fun j => j = g) w (w.setCell ⟨g, 0, none⟩ (Str [])) := Touch.setCell (T := fun j => j = g) (Touch.refl _ w) (p := ⟨g, 0, none⟩) (fun _ => rfl) _
  have hne : ∀ {B' : Nat} {e : TypeId} {u : Value} {m : Nat} {xs : List Value}, w.ownsRow B' e 1 u m xs → 9 ≠ e → ∀ j, u.ownBlock = some j → ¬ j = g := fun hu he j hj c => row_apt h.keys hu he (j := g) rfl (by rw [hj, c])
  refine ⟨?_, row_touch h.vals hT (hne h.vals (by decide)), fun p hp => (h.each p hp).touch hT (fun k hk cs' fr e => by
    subst hk
    obtain ⟨cur, q⟩ := row_type h.keys (k := k) rfl
    rw [q] at e
    injection e with e1
    injection e1 with _ e2 _
    exact absurd e2 (by decide)), row_touch h.kids hT (hne h.kids (by decide))⟩
  cases ks with
  | nil => cases h0
  | cons k l => exact hr
set_option maxRecDepth 100000 in
set_option maxHeartbeats 8000000 in
theorem nwithout_any (x : NM) (i j : Nat) (w : World) {Q : Nat → Prop} (hx : NQ w Q x) (sx : NS x) (hi : i ≤ x.ks.length) (hj : j ≤ x.ks.length) (hlf : x.leaf = true → x.v.l.length = x.ks.length) (hin : x.leaf = false → x.is.length = x.ks.length) :
    Calls Try.prog 58 #[x.val, .int .i64 (i : Int), .int .i64 (j : Int)] w (PNode w (N.without x.nd i j)) := by
  obtain ⟨N0, N1, w2, hN0, hN1, hw2, HA2, HB0, HB1, HL⟩ := nopen w #[.bool x.leaf, .slice x.ka x.ks.length x.kc, .slice x.v.a x.v.l.length x.v.cap, .slice x.ia x.is.length x.ic]
  have HC := hid (show Calls Try.prog 55 #[x.val, .int .i64 (i : Int), .int .i64 (j : Int), .agg #[.bool false, .slice none 0 0, .slice none 0 0, .slice none 0 0]] w2 (PNode w2 (N.change x.nd i j N.nil)) from nchange_any x NM.none i j w2 (hx.adds HA2.out) sx (NQ.none w2) NS.none hi hj hlf hin)
  obtain ⟨nd, hnd⟩ : ∃ nd, nd = N.change x.nd i j N.nil := ⟨_, rfl⟩
  have HN := hid (show N.without x.nd i j = N.first nd by rw [hnd]; rfl)
  rw [← hnd] at HC
  rw [HN.out]
  have hi9 : i ≤ 1000 := by have := sx.k; omega
  have hj9 : j ≤ 1000 := by have := sx.k; omega
  clear hx sx hi hj hlf hin hnd HN
  unfold NM.val NM.kv NM.vv NM.iv at *
  go_enter Try.func58, Try.ntmps58
  go_upto_region 1 with fail
  rw [← hw2, ← hN0, ← hN1]
  clear hw2 hN0 hN1
  obtain ⟨c0, c1, c2, c3⟩ := box_cells HB0.out
  go_upto_region 2 with (first
    | (go_at_call 55; refine HC.out.mono ?_; rintro e w3 hp; obtain ⟨leaf, ka, kc, ks, va, vc, hs, ia, ic, zs, rfl, H3⟩ := hp.op; clear hp)
    | (refine wpList_store_row rfl 28 _ _ rfl w3.heap.size #[.bool leaf, .slice ka ks.length kc, .slice va hs.length vc, .slice ia zs.length ic] rfl rfl 28 _ (heap_alloc_new w3 NZ) (info4 _ _ _ _) rfl (one4 _ _ _ _ _ _ _ _ _ _) ?_))
  clear c0 c1 c2 c3
  obtain ⟨N3, hN3⟩ : ∃ N3, N3 = w3.heap.size := ⟨_, rfl⟩
  obtain ⟨kn, hkn⟩ : ∃ kn, kn = ks.length := ⟨_, rfl⟩
  have hbz := heap_alloc_new w3 NZ
  have HO := hid (((H3.out.2.1.lower HA2.out.size).fresh NZ).touch (touch_row (w3.alloc NZ) w3.heap.size #[.bool leaf, .slice ka ks.length kc, .slice va hs.length vc, .slice ia zs.length ic]) hbz)
  have HBx := hid (setRow_heap (w3.alloc NZ) w3.heap.size _ #[.bool leaf, .slice ka ks.length kc, .slice va hs.length vc, .slice ia zs.length ic] 28 _ hbz)
  have HAx := hid (((HA2.out.trans H3.out.2.2).alloc NZ).then (touch_row (w3.alloc NZ) w3.heap.size #[.bool leaf, .slice ka ks.length kc, .slice va hs.length vc, .slice ia zs.length ic]) (fun j hj e => by have := (HA2.out.trans H3.out.2.2).size; omega))
  have hlt1 : N1 < w3.heap.size := Nat.lt_of_lt_of_le (Array.getElem?_eq_some_iff.1 HB1.out).1 H3.out.2.2.size
  have HBr := hid (show ((w3.alloc NZ).setRow w3.heap.size #[.bool leaf, .slice ka ks.length kc, .slice va hs.length vc, .slice ia zs.length ic]).heap[N1]? = some NZ by
    rw [(touch_row (w3.alloc NZ) w3.heap.size _).block N1 (by simp; omega) (by omega)]
    exact box_adds HB1.out (H3.out.2.2.alloc NZ))
  generalize hw4 : (w3.alloc NZ).setRow w3.heap.size #[.bool leaf, .slice ka ks.length kc, .slice va hs.length vc, .slice ia zs.length ic] = w4 at *
  rw [← hN3] at HBx ⊢
  have HNe := hid (show N1 ≠ N3 by omega)
  have HNd := hid H3.out.1
  rw [← hkn] at HBx ⊢
  have HKn := hid hkn
  clear hw4 hN3 hkn H3 hbz hlt1
  obtain ⟨d0, d1, d2, d3⟩ := box_cells HBx.out
  cases leaf with
  | true =>
    go_upto_region 4 with fail
    clear d0 d1 d2 d3
    go_wp2_with (first
      | (refine wpList_load_row rfl 28 _ rfl N3 rfl 28 _ _ _ HBx.out Try.underlying28 rfl (info4 _ _ _ _) ?_)
      | (refine wpList_store_row rfl 28 _ _ rfl N1 #[.bool true, .slice ka kn kc, .slice va hs.length vc, .slice ia zs.length ic] rfl rfl 28 _ HBr.out (info4 _ _ _ _) rfl (one4 _ _ _ _ _ _ _ _ _ _) ?_))
    refine bodyPost_ret (results_n1 rfl _ _ N1 _ rfl (setRow_heap w4 N1 _ _ 28 _ HBr.out) rfl) rfl ?_
    have hkn := HKn.out
    subst hkn
    exact pnode_end (z := ⟨true, ka, kc, ks, ⟨va, vc, hs⟩, ia, ic, zs⟩) (by rw [← HNd.out]; rfl) HO.out HAx.out HBr.out HL.out _
  | false =>
    by_cases h0 : kn = 0
    · have h0z : ¬ (0 : Int) < (kn : Int) := by omega
      have H0 := hid h0
      clear h0
      go_upto_region 4 with fail
      clear d0 d1 d2 d3
      go_wp2_with (first
        | (refine wpList_load_row rfl 28 _ rfl N3 rfl 28 _ _ _ HBx.out Try.underlying28 rfl (info4 _ _ _ _) ?_)
        | (refine wpList_store_row rfl 28 _ _ rfl N1 #[.bool false, .slice ka kn kc, .slice va hs.length vc, .slice ia zs.length ic] rfl rfl 28 _ HBr.out (info4 _ _ _ _) rfl (one4 _ _ _ _ _ _ _ _ _ _) ?_))
      refine bodyPost_ret (results_n1 rfl _ _ N1 _ rfl (setRow_heap w4 N1 _ _ 28 _ HBr.out) rfl) rfl ?_
      have hkn := HKn.out
      have h0 := H0.out
      subst hkn
      exact pnode_end (z := ⟨false, ka, kc, ks, ⟨va, vc, hs⟩, ia, ic, zs⟩) (by rw [← HNd.out]; unfold N.first; rw [if_neg (by simp; exact List.eq_nil_of_length_eq_zero h0)]; rfl) HO.out HAx.out HBr.out HL.out _
    · have h0z : (0 : Int) < (kn : Int) := by omega
      have h0d : decide ((0 : Int) < (kn : Int)) = true := decide_eq_true h0z
      have hk0 : 0 < kn := by omega
      obtain ⟨g, eg, hg, hrow, hfz, hsm⟩ := row_setc HO.out.keys (k := 0) (by show 0 < ks.length; rw [← HKn.out]; exact hk0) (Str [])
      obtain ⟨u9, hu9⟩ := Option.isSome_iff_exists.1 hsm
      have eg' : ka = some ⟨g, 0, none⟩ := eg
      have HRow := hid hrow
      have HG := hid hg
      subst eg'
      clear h0 hsm hrow hg eg
      go_upto_region 4 with fail
      clear d0 d1 d2 d3 hfz hu9
      obtain ⟨w5, hw5⟩ : ∃ w5, w5 = w4.setCell ⟨g, 0, none⟩ (.string ⟨#[]⟩) := ⟨_, rfl⟩
      have HO5 := hid (nown_first HO.out (by show 0 < ks.length; rw [← HKn.out]; exact hk0) HRow.out)
      have hT : Touch (fun j => j = g) w4 w5 := by rw [hw5]; exact Touch.setCell (T := fun j => j = g) (Touch.refl _ w4) (p := ⟨g, 0, none⟩) (fun _ => rfl) _
      have hn3 : ∀ N cs, w4.heap[N]? = some (.cells cs 28 (0, 0)) → N ≠ g := fun N cs hb e => row_ne HO.out.keys hb (by decide) (j := g) rfl e.symm
      have HBx5 := hid (show w5.heap[N3]? = some (.cells #[.bool false, .slice (some ⟨g, 0, none⟩) kn kc, .slice va hs.length vc, .slice ia zs.length ic] 28 (0, 0)) by rw [hT.block N3 (Array.getElem?_eq_some_iff.1 HBx.out).1 (hn3 _ _ HBx.out)]; exact HBx.out)
      have HBr5 := hid (show w5.heap[N1]? = some NZ by rw [hT.block N1 (Array.getElem?_eq_some_iff.1 HBr.out).1 (hn3 _ _ HBr.out)]; exact HBr.out)
      have HA5 := hid (HAx.out.then hT (fun j hj e => by have := HG.out; omega))
      have hst : (Str [] : Value) = .string ⟨#[]⟩ := rfl
      rw [hst, ← hw5] at HO5
      rw [← hw5]
      clear hw5 hT hn3 hst
      go_wp2_with (first
        | (refine wpList_load_row rfl 28 _ rfl N3 rfl 28 _ _ _ HBx5.out Try.underlying28 rfl (info4 _ _ _ _) ?_)
        | (refine wpList_store_row rfl 28 _ _ rfl N1 #[.bool false, .slice (some ⟨g, 0, none⟩) kn kc, .slice va hs.length vc, .slice ia zs.length ic] rfl rfl 28 _ HBr5.out (info4 _ _ _ _) rfl (one4 _ _ _ _ _ _ _ _ _ _) ?_))
      refine bodyPost_ret (results_n1 rfl _ _ N1 _ rfl (setRow_heap w5 N1 _ _ 28 _ HBr5.out) rfl) rfl ?_
      have hkn := HKn.out
      have hl : ks.length = ([] :: ks.tail : List (List UInt8)).length := by simp; omega
      have hnd : (NM.nd ⟨false, some ⟨g, 0, none⟩, kc, [] :: ks.tail, ⟨va, vc, hs⟩, ia, ic, zs⟩) = N.first nd := by
        rw [← HNd.out]; unfold N.first; rw [if_pos (by simp; omega)]; rfl
      have q := pnode_end (z := ⟨false, some ⟨g, 0, none⟩, kc, [] :: ks.tail, ⟨va, vc, hs⟩, ia, ic, zs⟩) hnd HO5.out HA5.out HBr5.out HL.out #[.bool false, .slice (some ⟨g, 0, none⟩) kn kc, .slice va hs.length vc, .slice ia zs.length ic]
      have hv : (NM.val ⟨false, some ⟨g, 0, none⟩, kc, [] :: ks.tail, ⟨va, vc, hs⟩, ia, ic, zs⟩) = .agg #[.bool false, .slice (some ⟨g, 0, none⟩) kn kc, .slice va hs.length vc, .slice ia zs.length ic] := by
        rw [hkn, hl]
      rw [hv] at q
      exact q
end Go.Proofs.Ytplppnngmlljnaa

/- A node that is being read: its box, its rows, a reader beside. -/
namespace Go.Proofs.Ytplppnngmlljnaa
open Go.RowKit

namespace N
def pkey (c : List UInt8) : List UInt8 := (M.textR 40 ⟨0, c⟩).1
def pst1 (c : List UInt8) : M.St := (M.textR 40 ⟨0, c⟩).2
def pval (c : List UInt8) : List UInt8 := (M.textR 49 (pst1 c)).1
def pkid (c : List UInt8) : Nat := (M.fixedR 4 (pst1 c)).1
def pst2 (leaf : Bool) (c : List UInt8) : M.St := if leaf then (M.textR 49 (pst1 c)).2 else (M.fixedR 4 (pst1 c)).2
def pbad (leaf : Bool) (c : List UInt8) : Bool := decide (M.endE (pst2 leaf c) ≠ 0)
def pnode (leaf : Bool) (l : List (List UInt8)) : Nd := ⟨leaf, l.map pkey, if leaf then l.map pval else [], if leaf then [] else l.map fun c => (pkid c : Int)⟩
def parse (bs : List UInt8) : Nd × Nat := if M.kindP bs ≠ 5 ∧ M.kindP bs ≠ 6 then (nil, 22) else if (M.cellsP bs).any (pbad (M.kindP bs == 5)) then (nil, 22) else told (pnode (M.kindP bs == 5) (M.cellsP bs))
end N
theorem RD.boxR {w : World} {p : Nat} {s : M.St} (h : RD w (.pointer (some ⟨p, 0, none⟩)) s) : ∃ cs, w.heap[p]? = some (.cells cs 114 (0, 0)) := by
  rcases h with ⟨e, _⟩ | ⟨q, e, hb, _⟩ | ⟨q, e, hR⟩
  · cases e
  · obtain rfl : p = q := by simpa using e
    exact ⟨_, hb⟩
  · obtain rfl : p = q := by simpa using e
    obtain ⟨a, cap, hb, _⟩ := hR.box
    exact ⟨_, hb⟩
/-- A node that is being read. -/
structure Pz (wc wx : World) (N5 : Nat) (leaf : Bool) (z : NM) : Prop where
  touch : Touch (fun j => j = N5) wc wx
  own : NOwn wx wc.heap.size z
  ck : ∀ g, z.kv.ownBlock = some g → Cold wx g
  cv : ∀ g, z.vv.ownBlock = some g → Cold wx g
  ci : ∀ g, z.iv.ownBlock = some g → Cold wx g
  box : wx.heap[N5]? = some (.cells #[.bool leaf, z.kv, z.vv, z.iv] 28 (0, 0))
  lf : z.leaf = leaf
theorem cold_touch {w w' : World} {T : Nat → Prop} {g : Nat} (h : Cold w g) (hT : Touch T w w') (hg : g < w.heap.size) (hn : ¬ T g) : Cold w' g := fun j c hc => by
  rw [World.cell?_of_block (w := w) (hT.block g hg hn)] at hc
  exact h j c hc
theorem row_lt {w : World} {B : Nat} {e : TypeId} {v : Value} {n : Nat} {xs : List Value} (h : w.ownsRow B e 1 v n xs) {j : Nat} (hj : v.ownBlock = some j) : j < w.heap.size := by
  obtain ⟨cur, q⟩ := row_type h hj
  exact (Array.getElem?_eq_some_iff.1 q).1
/-- Blocks turn that are neither the box nor rows: of another type, and new or the reader's. -/
theorem Pz.other {wc wx w' : World} {N5 : Nat} {leaf : Bool} {z : NM} (h : Pz wc wx N5 leaf z) {q : Nat} {cs : Array Value} {t : TypeId} (hb : wx.heap[q]? = some (.cells cs t (0, 0))) (ht : t ≠ 9 ∧ t ≠ 30 ∧ t ≠ 3 ∧ t ≠ 5 ∧ t ≠ 28) (hq : wc.heap.size ≤ q) (hT : Touch (fun j => j = q) wx w') : Pz wc w' N5 leaf z := by
  have n1 : ∀ j, z.kv.ownBlock = some j → ¬ j = q := fun j hj c => row_ne h.own.keys hb (fun e => ht.1 e.symm) hj c
  have n2 : ∀ j, z.vv.ownBlock = some j → ¬ j = q := fun j hj c => row_ne h.own.vals hb (fun e => ht.2.1 e.symm) hj c
  have n3 : ∀ j, z.iv.ownBlock = some j → ¬ j = q := fun j hj c => row_ne h.own.kids hb (fun e => ht.2.2.1 e.symm) hj c
  refine ⟨h.touch.then hT (fun j hj e => by omega), ⟨row_touch h.own.keys hT n1, row_touch h.own.vals hT n2, fun p hp => (h.own.each p hp).touch hT (fun k hk cs' fr e => ?_), row_touch h.own.kids hT n3⟩, fun g hg => cold_touch (h.ck g hg) hT (row_lt h.own.keys hg) (n1 g hg), fun g hg => cold_touch (h.cv g hg) hT (row_lt h.own.vals hg) (n2 g hg), fun g hg => cold_touch (h.ci g hg) hT (row_lt h.own.kids hg) (n3 g hg), ?_, h.lf⟩
  · subst hk
    rw [hb] at e
    injection e with e1
    injection e1 with _ e2 _
    exact ht.2.2.2.1 e2
  · rw [hT.block N5 (Array.getElem?_eq_some_iff.1 h.box).1 (fun c => ?_)]
    · exact h.box
    · subst c
      have := h.box
      rw [hb] at this
      injection this with e1
      injection e1 with _ e2 _
      exact ht.2.2.2.2 e2
theorem Pz.adds {wc wx w' : World} {N5 : Nat} {leaf : Bool} {z : NM} (h : Pz wc wx N5 leaf z) (hA : Adds wx w') : Pz wc w' N5 leaf z :=
  ⟨h.touch.then hA (fun _ _ c => c.elim), h.own.adds hA, fun g hg => cold_touch (h.ck g hg) hA (row_lt h.own.keys hg) id, fun g hg => cold_touch (h.cv g hg) hA (row_lt h.own.vals hg) id, fun g hg => cold_touch (h.ci g hg) hA (row_lt h.own.kids hg) id, box_adds h.box hA, h.lf⟩
/-- A reader's call. -/
theorem Pz.read {wc wx w' : World} {N5 p : Nat} {leaf : Bool} {z : NM} {s : M.St} (h : Pz wc wx N5 leaf z) (hr : RD wx (.pointer (some ⟨p, 0, none⟩)) s) (hp : wc.heap.size ≤ p) (hT : Touch (Own1 (.pointer (some ⟨p, 0, none⟩))) wx w') : Pz wc w' N5 leaf z := by
  obtain ⟨cs, hb⟩ := hr.boxR
  refine h.other hb (by decide) hp (hT.mono (fun j _ c => ?_))
  simp only [Own1, Value.pointer.injEq, Option.some.injEq, Addr.mk.injEq] at c
  exact c.1.symm
theorem cold_box {w : World} {N5 : Nat} {leaf : Bool} {a b c : Option Addr} {a1 a2 b1 b2 c1 c2 : Nat} (h : w.heap[N5]? = some (.cells #[.bool leaf, .slice a a1 a2, .slice b b1 b2, .slice c c1 c2] 28 (0, 0))) : Cold w N5 := by
  refine cold_cells h (fun u hu c e => ?_)
  simp at hu
  rcases hu with rfl | rfl | rfl | rfl <;> cases e
/-- The reader stays when a row without bytes grows. -/
theorem RD.grown {w w' : World} {p : Nat} {s : M.St} {B n : Nat} {e : TypeId} {v : Value} {xs : List Value} (h : RD w (.pointer (some ⟨p, 0, none⟩)) s) (hr : w.ownsRow B e 1 v n xs) (he : e ≠ 114) (hc : ∀ g, v.ownBlock = some g → Cold w g) (hT : Touch (fun j => v.ownBlock = some j) w w') : RD w' (.pointer (some ⟨p, 0, none⟩)) s := by
  obtain ⟨cs, hb⟩ := h.boxR
  refine h.keep hT (fun k hk => hc k hk) (fun k hk c => ?_)
  simp only [Own1, Value.pointer.injEq, Option.some.injEq, Addr.mk.injEq] at hk
  exact row_ne hr hb he c hk.1.symm
theorem RD.boxed {w : World} {p N5 j : Nat} {s : M.St} {leaf : Bool} {z : NM} {v : Value} (h : RD w (.pointer (some ⟨p, 0, none⟩)) s) (hb : w.heap[N5]? = some (.cells #[.bool leaf, z.kv, z.vv, z.iv] 28 (0, 0))) : RD (w.setCell ⟨N5, j, none⟩ v) (.pointer (some ⟨p, 0, none⟩)) s := by
  obtain ⟨cs, hr⟩ := h.boxR
  have hT : Touch (fun k => k = N5) w (w.setCell ⟨N5, j, none⟩ v) := Touch.setCell (T := fun k => k = N5) (Touch.refl _ w) (p := ⟨N5, j, none⟩) (fun _ => rfl) _
  refine h.keep hT (fun k hk => by subst hk; exact cold_box hb) (fun k hk c => ?_)
  simp only [Own1, Value.pointer.injEq, Option.some.injEq, Addr.mk.injEq] at hk
  have e : p = N5 := by omega
  subst e
  rw [hr] at hb
  injection hb with e1
  injection e1 with _ e2 _
  exact absurd e2 (by decide)
/-- A key more. -/
theorem Pz.key {wc W w' : World} {N5 : Nat} {leaf : Bool} {z : NM} {key : List UInt8} {v' : Value} (h : Pz wc W N5 leaf z) (r1 : w'.ownsRow wc.heap.size 9 1 v' (z.ks.length + 1) (Ss z.ks ++ [Str key])) (r2 : Touch (fun j => z.kv.ownBlock = some j) W w') (r4 : ∀ g, v'.ownBlock = some g → Cold w' g) :
    ∃ a' c', v' = .slice a' (z.ks.length + 1) c' ∧ w'.heap[N5]? = some (.cells #[.bool leaf, z.kv, z.vv, z.iv] 28 (0, 0)) ∧ Pz wc (w'.setCell ⟨N5, 1, none⟩ v') N5 leaf ⟨z.leaf, a', c', z.ks ++ [key], z.v, z.ia, z.ic, z.is⟩ := by
  obtain ⟨a', c', rfl, _⟩ := own_cq r1
  have hT : Touch (fun k => k = N5) w' (w'.setCell ⟨N5, 1, none⟩ (.slice a' (z.ks.length + 1) c')) := Touch.setCell (T := fun k => k = N5) (Touch.refl _ w') (p := ⟨N5, 1, none⟩) (fun _ => rfl) _
  have hbx : w'.heap[N5]? = some (.cells #[.bool leaf, z.kv, z.vv, z.iv] 28 (0, 0)) := by
    rw [r2.block N5 (Array.getElem?_eq_some_iff.1 h.box).1 (fun c => row_ne h.own.keys h.box (by decide) c rfl)]; exact h.box
  have k2 := row_touch h.own.vals r2 (fun j hj c => row_apt h.own.vals h.own.keys (by decide) hj c)
  have k3 := row_touch h.own.kids r2 (fun j hj c => row_apt h.own.kids h.own.keys (by decide) hj c)
  have hlow : ∀ j, z.kv.ownBlock = some j → wc.heap.size ≤ j := fun j hj => by
    rcases h.own.keys.2 with ⟨q, _⟩ | ⟨g, cap, cur, q, hb', _⟩
    · rw [q] at hj; cases hj
    · rw [q] at hj
      have e : g = j := Option.some.inj hj
      omega
  have ns : ∀ {e : TypeId} {v : Value} {n : Nat} {xs : List Value}, w'.ownsRow wc.heap.size e 1 v n xs → e ≠ 28 → ∀ j, v.ownBlock = some j → ¬ j = N5 := fun hr he j hj c => row_ne hr hbx he hj c
  have e9 : (z.ks ++ [key]).length = z.ks.length + 1 := by simp
  refine ⟨a', c', rfl, hbx, ⟨(h.touch.then r2 (fun j hj c => by have := hlow j c; omega)).then hT (fun j _ c => c), ⟨?_, row_touch k2 hT (ns k2 (by decide)), fun p hp => (((h.own.each p hp).touch r2 (fun k hk cs fr e => ?_))).touch hT (fun k hk cs fr e => ?_), row_touch k3 hT (ns k3 (by decide))⟩, fun g hg => ?_, fun g hg => ?_, fun g hg => ?_, ?_, h.lf⟩⟩
  · show World.ownsRow _ wc.heap.size 9 1 (.slice a' (z.ks ++ [key]).length c') (z.ks ++ [key]).length (Ss (z.ks ++ [key]))
    rw [e9, show Ss (z.ks ++ [key]) = Ss z.ks ++ [Str key] by simp [Ss]]
    exact row_touch r1 hT (ns r1 (by decide))
  · obtain ⟨cur, q⟩ := row_type h.own.keys hk
    rw [q] at e
    injection e with e1
    injection e1 with _ e2 _
    exact absurd e2 (by decide)
  · subst hk
    rw [hbx] at e
    injection e with e1
    injection e1 with _ e2 _
    exact absurd e2 (by decide)
  · have hg' : (Value.slice a' (z.ks.length + 1) c').ownBlock = some g := by rw [← e9]; exact hg
    exact cold_touch (r4 g hg') hT (row_lt r1 hg') (ns r1 (by decide) g hg')
  · exact cold_touch (cold_touch (h.cv g hg) r2 (row_lt h.own.vals hg) (fun c => row_apt h.own.vals h.own.keys (by decide) hg c)) hT (row_lt k2 hg) (ns k2 (by decide) g hg)
  · exact cold_touch (cold_touch (h.ci g hg) r2 (row_lt h.own.kids hg) (fun c => row_apt h.own.kids h.own.keys (by decide) hg c)) hT (row_lt k3 hg) (ns k3 (by decide) g hg)
  · rw [heap_setCell_same w' N5 1 _ 28 _ hbx]
    show _ = some (Obj.cells #[.bool leaf, .slice a' (z.ks ++ [key]).length c', z.vv, z.iv] 28 (0, 0))
    rw [e9]; rfl
/-- A value more. -/
theorem Pz.value {wc W w' : World} {N5 : Nat} {leaf : Bool} {z : NM} {y : Part} {v' : Value} (h : Pz wc W N5 leaf z) (hy : PT W wc.heap.size y) (r1 : w'.ownsRow wc.heap.size 30 1 v' (z.v.l.length + 1) (z.v.l.map PV ++ [PV y])) (r2 : Touch (fun j => z.vv.ownBlock = some j) W w') (r4 : ∀ g, v'.ownBlock = some g → Cold w' g) :
    ∃ a' c', v' = .slice a' (z.v.l.length + 1) c' ∧ w'.heap[N5]? = some (.cells #[.bool leaf, z.kv, z.vv, z.iv] 28 (0, 0)) ∧ Pz wc (w'.setCell ⟨N5, 2, none⟩ v') N5 leaf ⟨z.leaf, z.ka, z.kc, z.ks, ⟨a', c', z.v.l ++ [y]⟩, z.ia, z.ic, z.is⟩ := by
  obtain ⟨a', c', rfl, _⟩ := own_cq r1
  have hT : Touch (fun k => k = N5) w' (w'.setCell ⟨N5, 2, none⟩ (.slice a' (z.v.l.length + 1) c')) := Touch.setCell (T := fun k => k = N5) (Touch.refl _ w') (p := ⟨N5, 2, none⟩) (fun _ => rfl) _
  have hbx : w'.heap[N5]? = some (.cells #[.bool leaf, z.kv, z.vv, z.iv] 28 (0, 0)) := by
    rw [r2.block N5 (Array.getElem?_eq_some_iff.1 h.box).1 (fun c => row_ne h.own.vals h.box (by decide) c rfl)]; exact h.box
  have k2 := row_touch h.own.keys r2 (fun j hj c => row_apt h.own.keys h.own.vals (by decide) hj c)
  have k3 := row_touch h.own.kids r2 (fun j hj c => row_apt h.own.kids h.own.vals (by decide) hj c)
  have hlow : ∀ j, z.vv.ownBlock = some j → wc.heap.size ≤ j := fun j hj => by
    rcases h.own.vals.2 with ⟨q, _⟩ | ⟨g, cap, cur, q, hb', _⟩
    · rw [q] at hj; cases hj
    · rw [q] at hj
      have e : g = j := Option.some.inj hj
      omega
  have ns : ∀ {e : TypeId} {v : Value} {n : Nat} {xs : List Value}, w'.ownsRow wc.heap.size e 1 v n xs → e ≠ 28 → ∀ j, v.ownBlock = some j → ¬ j = N5 := fun hr he j hj c => row_ne hr hbx he hj c
  have e9 : (z.v.l ++ [y]).length = z.v.l.length + 1 := by simp
  refine ⟨a', c', rfl, hbx, ⟨(h.touch.then r2 (fun j hj c => by have := hlow j c; omega)).then hT (fun j _ c => c), ⟨row_touch k2 hT (ns k2 (by decide)), ?_, fun p hp => (((show PT W wc.heap.size p from by rcases List.mem_append.1 hp with hp | hp; exact h.own.each p hp; rw [List.mem_singleton.1 hp]; exact hy).touch r2 (fun k hk cs fr e => ?_))).touch hT (fun k hk cs fr e => ?_), row_touch k3 hT (ns k3 (by decide))⟩, fun g hg => ?_, fun g hg => ?_, fun g hg => ?_, ?_, h.lf⟩⟩
  · show World.ownsRow _ wc.heap.size 30 1 (.slice a' (z.v.l ++ [y]).length c') (z.v.l ++ [y]).length ((z.v.l ++ [y]).map PV)
    rw [e9, List.map_append]
    exact row_touch r1 hT (ns r1 (by decide))
  · obtain ⟨cur, q⟩ := row_type h.own.vals hk
    rw [q] at e
    injection e with e1
    injection e1 with _ e2 _
    exact absurd e2 (by decide)
  · subst hk
    rw [hbx] at e
    injection e with e1
    injection e1 with _ e2 _
    exact absurd e2 (by decide)
  · exact cold_touch (cold_touch (h.ck g hg) r2 (row_lt h.own.keys hg) (fun c => row_apt h.own.keys h.own.vals (by decide) hg c)) hT (row_lt k2 hg) (ns k2 (by decide) g hg)
  · have hg' : (Value.slice a' (z.v.l.length + 1) c').ownBlock = some g := by rw [← e9]; exact hg
    exact cold_touch (r4 g hg') hT (row_lt r1 hg') (ns r1 (by decide) g hg')
  · exact cold_touch (cold_touch (h.ci g hg) r2 (row_lt h.own.kids hg) (fun c => row_apt h.own.kids h.own.vals (by decide) hg c)) hT (row_lt k3 hg) (ns k3 (by decide) g hg)
  · rw [heap_setCell_same w' N5 2 _ 28 _ hbx]
    show _ = some (Obj.cells #[.bool leaf, z.kv, .slice a' (z.v.l ++ [y]).length c', z.iv] 28 (0, 0))
    rw [e9]; rfl
/-- A kid more. -/
theorem Pz.kid {wc W w' : World} {N5 : Nat} {leaf : Bool} {z : NM} {kid : Int} {v' : Value} (h : Pz wc W N5 leaf z) (r1 : w'.ownsRow wc.heap.size 3 1 v' (z.is.length + 1) (Is z.is ++ [.int .i64 kid])) (r2 : Touch (fun j => z.iv.ownBlock = some j) W w') (r4 : ∀ g, v'.ownBlock = some g → Cold w' g) :
    ∃ a' c', v' = .slice a' (z.is.length + 1) c' ∧ w'.heap[N5]? = some (.cells #[.bool leaf, z.kv, z.vv, z.iv] 28 (0, 0)) ∧ Pz wc (w'.setCell ⟨N5, 3, none⟩ v') N5 leaf ⟨z.leaf, z.ka, z.kc, z.ks, z.v, a', c', z.is ++ [kid]⟩ := by
  obtain ⟨a', c', rfl, _⟩ := own_cq r1
  have hT : Touch (fun k => k = N5) w' (w'.setCell ⟨N5, 3, none⟩ (.slice a' (z.is.length + 1) c')) := Touch.setCell (T := fun k => k = N5) (Touch.refl _ w') (p := ⟨N5, 3, none⟩) (fun _ => rfl) _
  have hbx : w'.heap[N5]? = some (.cells #[.bool leaf, z.kv, z.vv, z.iv] 28 (0, 0)) := by
    rw [r2.block N5 (Array.getElem?_eq_some_iff.1 h.box).1 (fun c => row_ne h.own.kids h.box (by decide) c rfl)]; exact h.box
  have k2 := row_touch h.own.vals r2 (fun j hj c => row_apt h.own.vals h.own.kids (by decide) hj c)
  have k3 := row_touch h.own.keys r2 (fun j hj c => row_apt h.own.keys h.own.kids (by decide) hj c)
  have hlow : ∀ j, z.iv.ownBlock = some j → wc.heap.size ≤ j := fun j hj => by
    rcases h.own.kids.2 with ⟨q, _⟩ | ⟨g, cap, cur, q, hb', _⟩
    · rw [q] at hj; cases hj
    · rw [q] at hj
      have e : g = j := Option.some.inj hj
      omega
  have ns : ∀ {e : TypeId} {v : Value} {n : Nat} {xs : List Value}, w'.ownsRow wc.heap.size e 1 v n xs → e ≠ 28 → ∀ j, v.ownBlock = some j → ¬ j = N5 := fun hr he j hj c => row_ne hr hbx he hj c
  have e9 : (z.is ++ [kid]).length = z.is.length + 1 := by simp
  refine ⟨a', c', rfl, hbx, ⟨(h.touch.then r2 (fun j hj c => by have := hlow j c; omega)).then hT (fun j _ c => c), ⟨row_touch k3 hT (ns k3 (by decide)), row_touch k2 hT (ns k2 (by decide)), fun p hp => (((h.own.each p hp).touch r2 (fun k hk cs fr e => ?_))).touch hT (fun k hk cs fr e => ?_), ?_⟩, fun g hg => ?_, fun g hg => ?_, fun g hg => ?_, ?_, h.lf⟩⟩
  · obtain ⟨cur, q⟩ := row_type h.own.kids hk
    rw [q] at e
    injection e with e1
    injection e1 with _ e2 _
    exact absurd e2 (by decide)
  · subst hk
    rw [hbx] at e
    injection e with e1
    injection e1 with _ e2 _
    exact absurd e2 (by decide)
  · show World.ownsRow _ wc.heap.size 3 1 (.slice a' (z.is ++ [kid]).length c') (z.is ++ [kid]).length (Is (z.is ++ [kid]))
    rw [e9, show Is (z.is ++ [kid]) = Is z.is ++ [.int .i64 kid] by simp [Is]]
    exact row_touch r1 hT (ns r1 (by decide))
  · exact cold_touch (cold_touch (h.ck g hg) r2 (row_lt h.own.keys hg) (fun c => row_apt h.own.keys h.own.kids (by decide) hg c)) hT (row_lt k3 hg) (ns k3 (by decide) g hg)
  · exact cold_touch (cold_touch (h.cv g hg) r2 (row_lt h.own.vals hg) (fun c => row_apt h.own.vals h.own.kids (by decide) hg c)) hT (row_lt k2 hg) (ns k2 (by decide) g hg)
  · have hg' : (Value.slice a' (z.is.length + 1) c').ownBlock = some g := by rw [← e9]; exact hg
    exact cold_touch (r4 g hg') hT (row_lt r1 hg') (ns r1 (by decide) g hg')
  · rw [heap_setCell_same w' N5 3 _ 28 _ hbx]
    show _ = some (Obj.cells #[.bool leaf, z.kv, z.vv, .slice a' (z.is ++ [kid]).length c'] 28 (0, 0))
    rw [e9]; rfl
end Go.Proofs.Ytplppnngmlljnaa

/- An append of a whole list to an empty one that was just made; a node that is being copied. -/
namespace Go.Proofs.Ytplppnngmlljnaa
open Go.RowKit

theorem run_append_lit {w : World} {Q : Nat → Prop} (t ty e : TypeId) (i : TypeInfo) (z : Value) (by_ : Nat) (ht : Try.prog.underlying t = some (.slice e)) (hi : Try.prog.info? e = some i) (hz : i.zero = some z) (hs : i.size = 1) (hby : i.bytes = by_) (hz1 : z.cells.size = 1) (B g : Nat) (hB : B ≤ g) (hb : w.heap[g]? = some (.cells #[] e (0, 0)))
    (a : Option Addr) (m cap : Nat) (news : List Value) (hm : news.length = m) (hA : CQ w Q a news) (hcap : a = none → cap = 0) (h1 : ∀ u ∈ news, u.oneCell' = true) (hm9 : m * by_ ≤ 140737488355328) (hby1 : 1 ≤ by_) :
    ∃ a' c' w', (Builtin.append_ #[t, t] ty #[.slice (some ⟨g, 0, none⟩) 0 0, .slice a m cap]).run Try.prog w = .ok (.slice a' m c') w' ∧ w'.ownsRow B e 1 (.slice a' m c') m news ∧ Adds w w' := by
  have hg : g < w.heap.size := (Array.getElem?_eq_some_iff.1 hb).1
  have hm8 : m ≤ 140737488355328 := Nat.le_trans (Nat.le_mul_of_pos_right m hby1) hm9
  have hown : w.ownsRow B e 1 (.slice (some ⟨g, 0, none⟩) 0 0) 0 [] := ⟨rfl, .inr ⟨g, 0, #[], rfl, hB, hb, Nat.le_refl _, by decide, rfl, rfl⟩⟩
  cases a with
  | none =>
    obtain rfl : news = [] := by
      cases news with
      | nil => rfl
      | cons u l => obtain ⟨b, o', e, _⟩ := hA 0 u rfl; cases e
    obtain rfl : m = 0 := by rw [← hm]; rfl
    obtain rfl := hcap rfl
    refine ⟨some ⟨g, 0, none⟩, 0, w, ?_, hown, Touch.refl _ w⟩
    exact run_append_owned_none (P := Try.prog) (w := w) B t ty e i 1 ht hi _ 0 [] hown
  | some ad =>
    have hnews : ∀ (j : Nat) (y : Value), news[j]? = some y → w.cell? (ad.add j) = some y := fun j y hj => by
      obtain ⟨b, o', e, _, hc⟩ := hA j y hj
      obtain rfl : ad = ⟨b, o', none⟩ := by simpa using e
      rw [Addr.add_mid]; exact hc
    by_cases h0 : m = 0
    · subst h0
      obtain rfl := List.eq_nil_of_length_eq_zero hm
      have hr := run_append_room (P := Try.prog) w t ty e i ht hi g 0 0 #[] hb ad 0 cap [] (by rw [hs]; rfl) hnews h1 (Nat.le_refl _) (by simp)
      have hsr := setRow_heap w g #[] (#[].toList.take (0 * i.size) ++ ([] : List Value) ++ #[].toList.drop (0 * i.size + ([] : List Value).length)).toArray e _ hb
      refine ⟨some ⟨g, 0, none⟩, 0, _, hr, ⟨rfl, .inr ⟨g, 0, #[], rfl, hB, by rw [hsr]; simp, Nat.le_refl _, by decide, rfl, rfl⟩⟩, ⟨rfl, rfl, rfl, by simp, fun k _ _ => ?_⟩⟩
      by_cases e : k = g
      · subst e
        rw [hsr, hb]; simp
      · exact setRow_other w g k _ e
    · have hr := run_append_grow (P := Try.prog) w t ty e i z ht hi hz ⟨g, 0, none⟩ 0 0 [] (by simp) (by simp) ad m cap news (by rw [hs]; omega) hnews (by omega) (by omega) (growslice_fits (by omega) (by rw [hby, Nat.zero_add]; exact hm9))
      obtain ⟨v', w', hrun, r1, _⟩ := run_append_own_at (P := Try.prog) w B t ty e i z 1 by_ ht hi hz hs hby hz1 (by decide) _ 0 [] hown ad m cap news (by omega) hnews h1 (by unfold maxLen; omega) (by rw [Nat.zero_add]; exact hm9) (by omega)
      rw [hr] at hrun
      injection hrun with e1 e2
      subst e1
      subst e2
      rw [Nat.zero_add, List.nil_append] at r1
      rw [Nat.zero_add] at hr
      exact ⟨_, _, _, hr, r1, ((Touch.refl _ w).drew).alloc _⟩
theorem wp_append_lit {o : Oper} {act : Act} {w : World} {K : Act → World → Prop} {QQ : Exit → Act → World → Prop} {Q : Nat → Prop} (t e : TypeId) (i : TypeInfo) (z : Value) (by_ : Nat) (ht : Try.prog.underlying t = some (.slice e)) (hi : Try.prog.info? e = some i) (hz : i.zero = some z) (hs : i.size = 1) (hby : i.bytes = by_) (hz1 : z.cells.size = 1) (s x : Operand)
    (hop : o.op = Op.call { callee := Callee.builtin Builtin.append, args := #[s, x], argTypes := #[t, t] }) (B g : Nat) (hB : B ≤ g) (hb : w.heap[g]? = some (.cells #[] e (0, 0))) (hsv : act.eval s = .slice (some ⟨g, 0, none⟩) 0 0)
    (a : Option Addr) (m cap : Nat) (news : List Value) (hx : act.eval x = .slice a m cap) (hm : news.length = m) (hA : CQ w Q a news) (hcap : a = none → cap = 0) (h1 : ∀ u ∈ news, u.oneCell' = true) (hm9 : m * by_ ≤ 140737488355328) (hby1 : 1 ≤ by_)
    (hK : ∀ a' c' w', w'.ownsRow B e 1 (.slice a' m c') m news → Adds w w' → K (act.put o.dst (.slice a' m c')) w') : Oper.wp Try.prog o act w K QQ := by
  obtain ⟨a', c', w', hrun, r1, r2⟩ := run_append_lit t o.type e i z by_ ht hi hz hs hby hz1 B g hB hb a m cap news hm hA hcap h1 hm9 hby1
  unfold Oper.wp
  simp [execOp, hop, resolve, invoke, builtin, hsv, hx, hrun, Result.andThen]
  exact hK a' c' w' r1 r2
section
variable {P : Program} {ops : Array Oper} {Q : Exit → Act → World → Prop} {md : Region.Mode} {S : World → Prop} {X : Nat}
/-- An operation among others, by its law. -/
theorem EO_do {i : Nat} {o : Oper} (d : Option Nat) {fuel : Nat} {listed : Array Bool} {a : Act} {w : World} (ho : ops[i]? = some o) (hd : o.dst = d) (hg : o.guard = none)
    (h : ∀ K' : Act → World → Prop, (∀ v w, (i ≠ X → S w) → pwpAnyE P md ops Q S X fuel (listed.setIfInBounds i true) (a.put d v) w → K' (a.put o.dst v) w) → Oper.wp P o a w K' Q) :
    wpOp P ops Q i (fun a' w' => (i ≠ X → S w') ∧ pwpAnyE P md ops Q S X fuel (listed.setIfInBounds i true) a' w') a w := by
  refine wpOp_step ho (fun K' hK => ?_)
  rw [if_pos (by simp [Region.wanted, hg])]
  exact h K' (fun v w h1 h2 => hK _ _ ⟨h1, by rw [hd]; exact h2⟩)
end
/-- A node that memory can hold. -/
structure NBig (x : NM) : Prop where
  k : x.ks.length * 16 ≤ 140737488355328
  v : x.v.l.length * 24 ≤ 140737488355328
  i : x.is.length * 8 ≤ 140737488355328
  vl : ∀ b ∈ x.v.l, b.bs.length * 1 ≤ 140737488355328
/-- A node that is being copied: its box, its rows. -/
structure Pc (w wx : World) (N5 : Nat) (leaf : Bool) (z : NM) : Prop where
  adds : Adds w wx
  hN : w.heap.size ≤ N5
  own : NOwn wx w.heap.size z
  box : wx.heap[N5]? = some (.cells #[.bool leaf, z.kv, z.vv, z.iv] 28 (0, 0))
  lf : z.leaf = leaf
theorem Pc.more {w wx w' : World} {N5 : Nat} {leaf : Bool} {z : NM} (h : Pc w wx N5 leaf z) (hA : Adds wx w') : Pc w w' N5 leaf z := ⟨h.adds.trans hA, h.hN, h.own.adds hA, box_adds h.box hA, h.lf⟩
/-- The beginning: keys and numbers lie there, no value. -/
theorem pc_made {w w1 wx : World} {N5 : Nat} {leaf : Bool} {ks : List (List UInt8)} {zs : List Int} {ka ia : Option Addr} {kn kc zn ic : Nat} {o : Array Value} (hA : Adds w w1) (hA2 : Adds w1 wx) (hN : w.heap.size ≤ N5) (hb : wx.heap[N5]? = some (.cells o 28 (0, 0)))
    (hk : wx.ownsRow w.heap.size 9 1 (.slice ka kn kc) kn (Ss ks)) (hi : wx.ownsRow w.heap.size 3 1 (.slice ia zn ic) zn (Is zs)) (hkn : kn = ks.length) (hzn : zn = zs.length) :
    Pc w (wx.setRow N5 #[.bool leaf, .slice ka kn kc, .slice none 0 0, .slice ia zn ic]) N5 leaf ⟨leaf, ka, kc, ks, ⟨none, 0, []⟩, ia, ic, zs⟩ := by
  subst hkn
  subst hzn
  have hT : Touch (fun j => j = N5) wx (wx.setRow N5 #[.bool leaf, .slice ka ks.length kc, .slice none 0 0, .slice ia zs.length ic]) := Touch.setRow (T := fun j => j = N5) (Touch.refl _ _) (fun _ => rfl) _
  refine ⟨(hA.trans hA2).then hT (fun j hj e => by omega), hN, ⟨row_touch hk hT (fun j hj c => row_ne hk hb (by decide) hj c), World.ownsRow_nil _ _ _ _, fun p hp => (by cases hp), row_touch hi hT (fun j hj c => row_ne hi hb (by decide) hj c)⟩, setRow_heap wx N5 _ _ 28 _ hb, rfl⟩
/-- A value more. -/
theorem Pc.value {w W w' : World} {N5 : Nat} {leaf : Bool} {z : NM} {y : Part} {v' : Value} (h : Pc w W N5 leaf z) (hy : PT W w.heap.size y) (r1 : w'.ownsRow w.heap.size 30 1 v' (z.v.l.length + 1) (z.v.l.map PV ++ [PV y])) (r2 : Touch (fun j => z.vv.ownBlock = some j) W w') :
    ∃ a' c', v' = .slice a' (z.v.l.length + 1) c' ∧ w'.heap[N5]? = some (.cells #[.bool leaf, z.kv, z.vv, z.iv] 28 (0, 0)) ∧ Pc w (w'.setCell ⟨N5, 2, none⟩ v') N5 leaf ⟨z.leaf, z.ka, z.kc, z.ks, ⟨a', c', z.v.l ++ [y]⟩, z.ia, z.ic, z.is⟩ := by
  obtain ⟨a', c', rfl, _⟩ := own_cq r1
  have hT : Touch (fun k => k = N5) w' (w'.setCell ⟨N5, 2, none⟩ (.slice a' (z.v.l.length + 1) c')) := Touch.setCell (T := fun k => k = N5) (Touch.refl _ w') (p := ⟨N5, 2, none⟩) (fun _ => rfl) _
  have hbx : w'.heap[N5]? = some (.cells #[.bool leaf, z.kv, z.vv, z.iv] 28 (0, 0)) := by
    rw [r2.block N5 (Array.getElem?_eq_some_iff.1 h.box).1 (fun c => row_ne h.own.vals h.box (by decide) c rfl)]; exact h.box
  have k2 := row_touch h.own.keys r2 (fun j hj c => row_apt h.own.keys h.own.vals (by decide) hj c)
  have k3 := row_touch h.own.kids r2 (fun j hj c => row_apt h.own.kids h.own.vals (by decide) hj c)
  have hlow : ∀ j, z.vv.ownBlock = some j → w.heap.size ≤ j := fun j hj => by
    rcases h.own.vals.2 with ⟨q, _⟩ | ⟨g, cap, cur, q, hb', _⟩
    · rw [q] at hj; cases hj
    · rw [q] at hj
      have e : g = j := Option.some.inj hj
      omega
  have ns : ∀ {e : TypeId} {v : Value} {n : Nat} {xs : List Value}, w'.ownsRow w.heap.size e 1 v n xs → e ≠ 28 → ∀ j, v.ownBlock = some j → ¬ j = N5 := fun hr he j hj c => row_ne hr hbx he hj c
  have e9 : (z.v.l ++ [y]).length = z.v.l.length + 1 := by simp
  have hN := h.hN
  refine ⟨a', c', rfl, hbx, ⟨(h.adds.then r2 (fun j hj c => by have := hlow j c; omega)).then hT (fun j hj c => by omega), hN, ⟨row_touch k2 hT (ns k2 (by decide)), ?_, fun p hp => (((show PT W w.heap.size p from by rcases List.mem_append.1 hp with hp | hp; exact h.own.each p hp; rw [List.mem_singleton.1 hp]; exact hy).touch r2 (fun k hk cs fr e => ?_))).touch hT (fun k hk cs fr e => ?_), row_touch k3 hT (ns k3 (by decide))⟩, ?_, h.lf⟩⟩
  · show World.ownsRow _ w.heap.size 30 1 (.slice a' (z.v.l ++ [y]).length c') (z.v.l ++ [y]).length ((z.v.l ++ [y]).map PV)
    rw [e9, List.map_append]
    exact row_touch r1 hT (ns r1 (by decide))
  · obtain ⟨cur, q⟩ := row_type h.own.vals hk
    rw [q] at e
    injection e with e1
    injection e1 with _ e2 _
    exact absurd e2 (by decide)
  · subst hk
    rw [hbx] at e
    injection e with e1
    injection e1 with _ e2 _
    exact absurd e2 (by decide)
  · rw [heap_setCell_same w' N5 2 _ 28 _ hbx]
    show _ = some (Obj.cells #[.bool leaf, z.kv, .slice a' (z.v.l ++ [y]).length c', z.iv] 28 (0, 0))
    rw [e9]; rfl
end Go.Proofs.Ytplppnngmlljnaa
