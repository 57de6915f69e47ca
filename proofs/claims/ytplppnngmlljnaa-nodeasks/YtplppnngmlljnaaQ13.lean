/- Texts put together: PReg2, NChange, NWithout, NPz, NLit, NCopied, NRemove. -/
import Derived.OrdersHeld
import Derived.RegionTactic
import Derived.Deep.MidRow
import Derived.Test.YtplppnngmlljnaaQ12
import Derived.Deep.CutBlock
import Derived.Deep.DeepCutAuto
import Derived.Deep.CutRange
/- A region that draws its order, walked under a condition on the world that is asked only while something is still to come. -/
namespace Go.Proofs.Ytplppnngmlljnaa

section
variable {P : Program} {ops : Array Oper} {Q : Exit → Act → World → Prop} {md : Region.Mode} {S : World → Prop} {X : Nat}

/-- Operation j waits for operation i. -/
def pwaitsFor (md : Region.Mode) (ops : Array Oper) (j i : Nat) : Bool :=
  match ops[j]? with | some o => o.after.any fun e => Region.binds md e && e.on == i | none => false

/-- Whatever order is picked from here on; S holds behind each operation but number X. -/
def pwpAnyE (P : Program) (md : Region.Mode) (ops : Array Oper) (Q : Exit → Act → World → Prop) (S : World → Prop) (X : Nat) : Nat → Array Bool → Act → World → Prop
  | 0, listed, a, w => Region.ready md ops listed = [] ∧ Q .normal a w
  | fuel + 1, listed, a, w =>
    (Region.ready md ops listed = [] → Q .normal a w) ∧
    ∀ i ∈ Region.ready md ops listed, wpOp P ops Q i (fun a' w' => (i ≠ X → S w') ∧ pwpAnyE P md ops Q S X fuel (listed.setIfInBounds i true) a' w') a w

set_option maxRecDepth 100000 in
theorem pwpAny_of_E : ∀ (fuel : Nat) (listed : Array Bool) (a : Act) (w : World), pwpAnyE P md ops Q S X fuel listed a w → wpAny P md ops Q fuel listed a w := by
  intro fuel
  induction fuel with
  | zero => exact fun _ _ _ h => h
  | succ n ih => exact fun _ _ _ h => ⟨h.1, fun i hi => wpOp_mono (fun a' w' q => ih _ a' w' q.2) (h.2 i hi)⟩

set_option maxRecDepth 100000 in
theorem Pe_first {i : Nat} {oi : Oper} {v : Value} (hi : ops[i]? = some oi) (hsel : ∀ (j : Nat) (o : Oper) cs b, ops[j]? = some o → o.op ≠ .select cs b)
    (hQ : ∀ c a w, Q (.panic c) (a.put oi.dst v) w → Q (.panic c) a w) (hX : (decide (ops.size ≤ X) || pwaitsFor md ops X i) = true) (fuel : Nat) :
    ∀ (listed : Array Bool) (a : Act) (w : World),
      (∀ j oj, ops[j]? = some oj → j ≠ i → listed.getD j true = false → (∀ e ∈ oj.after, Region.binds md e = true → e.on ≠ i) → oi.apart ops oj = true) →
      i ∈ Region.ready md ops listed → YieldsIf P ops S oi v a → S w →
      pwpAnyE P md ops Q S X fuel (listed.setIfInBounds i true) (a.put oi.dst v) w → pwpAnyE P md ops Q S X (fuel + 1) listed a w := by
  induction fuel with
  | zero =>
    intro listed a w _ hr hy hS H
    refine ⟨fun h => (by rw [h] at hr; cases hr), fun j hj => ?_⟩
    by_cases e : j = i
    · subst e; exact hy.wpOp hi hS ⟨fun _ => hS, H⟩
    · have q := ready_mono hj e
      rw [H.1] at q; cases q
  | succ fuel ih =>
    intro listed a w hfree hr hy hS H
    refine ⟨fun h => (by rw [h] at hr; cases hr), fun j hj => ?_⟩
    by_cases e : j = i
    · subst e; exact hy.wpOp hi hS ⟨fun _ => hS, H⟩
    · have q := H.2 j (ready_mono hj e)
      obtain ⟨hun, oj, hoj, hall⟩ := mem_ready.1 hj
      have hnot : ∀ x ∈ oj.after, Region.binds md x = true → x.on ≠ i := fun x hx hb hxi => by
        have q1 := hall x hx hb
        have q0 := (mem_ready.1 hr).1
        rw [hxi] at q1
        rcases Nat.lt_or_ge i listed.size with c | c
        · simp [c] at q0 q1; rw [q0] at q1; cases q1
        · simp [Array.getElem?_eq_none c] at q1
      have q2 := wpOp_putIf hoj (hfree j oj hoj e hun hnot) (fun cs b => hsel i oi cs b hi) (fun cs b => hsel j oj cs b hoj) hQ hy q
      have hlast : j ≠ X := fun c => by
        subst c
        have hjl : ¬ ops.size ≤ j := Nat.not_le.2 (Array.getElem?_eq_some_iff.1 hoj).1
        simp only [pwaitsFor, hoj, Array.any_eq_true, Bool.and_eq_true, beq_iff_eq, Bool.or_eq_true, decide_eq_true_eq, hjl, false_or] at hX
        obtain ⟨k, hk, c1, c2⟩ := hX
        exact absurd c2 (hnot _ (Array.getElem_mem hk) c1)
      have hfree' : ∀ k ok, ops[k]? = some ok → k ≠ i → (listed.setIfInBounds j true).getD k true = false →
          (∀ x ∈ ok.after, Region.binds md x = true → x.on ≠ i) → oi.apart ops ok = true := fun k ok hk hki hu hn => by
        refine hfree k ok hk hki ?_ hn
        by_cases c : j = k
        · subst c; exact hun
        · rw [getD_set_ne true c] at hu; exact hu
      refine wpOp_mono (fun a' w' q3 => ⟨fun _ => q3.2.1 hlast, ih (listed.setIfInBounds j true) a' w' hfree' (ready_mono hr (Ne.symm e)) q3.1 (q3.2.1 hlast) ?_⟩) q2
      rw [Array.setIfInBounds_comm _ _ e]
      exact q3.2.2

/-- Number i is taken first. -/
theorem Pe_take {i : Nat} {oi : Oper} {v : Value} {fuel : Nat} {listed : Array Bool} {a : Act} {w : World} (hi : ops[i]? = some oi)
    (hs : Region.noSelect ops = true) (hf : Region.free md ops listed i = true) (hr : (Region.ready md ops listed).contains i = true)
    (hX : (decide (ops.size ≤ X) || pwaitsFor md ops X i) = true) (hQ : ∀ c a w, Q (.panic c) (a.put oi.dst v) w → Q (.panic c) a w) (hy : YieldsIf P ops S oi v a) (hS : S w)
    (h : pwpAnyE P md ops Q S X fuel (listed.setIfInBounds i true) (a.put oi.dst v) w) : pwpAnyE P md ops Q S X (fuel + 1) listed a w :=
  Pe_first hi (Region.noSelect_spec hs) hQ hX fuel listed a w (Region.free_spec hi hf) (by simpa using hr) hy hS h

/-- The same, the place where its value goes written out. -/
theorem Pe_put {i : Nat} {oi : Oper} (d : Nat) {v : Value} {fuel : Nat} {listed : Array Bool} {a : Act} {w : World} (hi : ops[i]? = some oi) (hd : oi.dst = some d)
    (hs : Region.noSelect ops = true) (hf : Region.free md ops listed i = true) (hr : (Region.ready md ops listed).contains i = true)
    (hX : (decide (ops.size ≤ X) || pwaitsFor md ops X i) = true) (hQ : ∀ c a w, Q (.panic c) (a.put oi.dst v) w → Q (.panic c) a w) (hy : YieldsIf P ops S oi v a) (hS : S w)
    (h : pwpAnyE P md ops Q S X fuel (listed.setIfInBounds i true) (a.put (some d) v) w) : pwpAnyE P md ops Q S X (fuel + 1) listed a w :=
  Pe_take hi hs hf hr hX hQ hy hS (by rw [hd]; exact h)

set_option maxRecDepth 100000 in
/-- One alone may come up. -/
theorem Pe_one {i : Nat} {o : Oper} {fuel : Nat} {listed : Array Bool} {a : Act} {w : World} (hr : Region.ready md ops listed = [i]) (ho : ops[i]? = some o)
    (h : ∀ K' : Act → World → Prop, (∀ a w, (i ≠ X → S w) → pwpAnyE P md ops Q S X fuel (listed.setIfInBounds i true) a w → K' a w) → if Region.wanted o (yielded ops a.tmps) = true then Oper.wp P o a w K' Q else K' (a.put o.dst undef) w) :
    pwpAnyE P md ops Q S X (fuel + 1) listed a w := by
  refine ⟨fun c => (by rw [hr] at c; cases c), fun j hj => ?_⟩
  rw [hr] at hj
  obtain rfl := List.mem_singleton.1 hj
  exact wpOp_step ho (fun K' hK => h K' (fun a w h1 h2 => hK a w ⟨h1, h2⟩))

set_option maxRecDepth 100000 in
/-- The same, the place where its value goes written out. -/
theorem Pe_do {i : Nat} {o : Oper} (d : Option Nat) {fuel : Nat} {listed : Array Bool} {a : Act} {w : World} (hr : Region.ready md ops listed = [i]) (ho : ops[i]? = some o) (hd : o.dst = d) (hg : o.guard = none)
    (h : ∀ K' : Act → World → Prop, (∀ v w, (i ≠ X → S w) → pwpAnyE P md ops Q S X fuel (listed.setIfInBounds i true) (a.put d v) w → K' (a.put o.dst v) w) → Oper.wp P o a w K' Q) :
    pwpAnyE P md ops Q S X (fuel + 1) listed a w := by
  refine Pe_one hr ho (fun K' hK => ?_)
  rw [if_pos (by simp [Region.wanted, hg])]
  exact h K' (fun v w h1 h2 => hK _ _ h1 (by rw [hd]; exact h2))

theorem Pe_done {listed : Array Bool} {a : Act} {w : World} (hr : Region.ready md ops listed = []) (h : Q .normal a w) : ∀ fuel, pwpAnyE P md ops Q S X fuel listed a w
  | 0 => ⟨hr, h⟩
  | _ + 1 => ⟨fun _ => h, by rw [hr]; simp⟩

/-- The beginning. -/
theorem Pe_begin {id : Nat} {a : Act} {w : World} (hm : P.follows .mixedOrders = true) (h : pwpAnyE P .any ops Q S X ops.size (Array.replicate ops.size false) a w.drew) : (Code.region id ops true).wp P Q a w :=
  wp_region_any hm (pwpAny_of_E _ _ _ _ h)
set_option maxRecDepth 100000 in
/-- A call comes up alone. -/
theorem Pe_call {i : Nat} {o : Oper} (d f : Nat) (args : Array Value) {fuel : Nat} {listed : Array Bool} {a : Act} {w : World} (hr : Region.ready md ops listed = [i]) (ho : ops[i]? = some o) (hd : o.dst = some d)
    (hw : Region.wanted o (yielded ops a.tmps) = true) (hx : (execOp a.eval o).run P w = .ok (.enter f args) w) {R : Ending → World → Prop} (hc : Calls P f args w R)
    (h : ∀ e w', R e w' → ∃ v : Value, e = .returned v ∧ (i ≠ X → S w') ∧ pwpAnyE P md ops Q S X fuel (listed.setIfInBounds i true) (a.put (some d) v) w') : pwpAnyE P md ops Q S X (fuel + 1) listed a w := by
  refine Pe_one hr ho (fun K' hK => ?_)
  rw [if_pos hw]
  unfold Oper.wp
  rw [hx]
  refine hc.mono fun e w' hR => ?_
  obtain ⟨v, rfl, h1, h2⟩ := h e w' hR
  refine hK _ _ h1 ?_
  rw [hd]; exact h2
/-- Each that may come up. -/
theorem Pe_all {rs : List Nat} {fuel : Nat} {listed : Array Bool} {a : Act} {w : World} (hr : Region.ready md ops listed = rs) (hne : rs ≠ [])
    (h : ∀ j ∈ rs, wpOp P ops Q j (fun a' w' => (j ≠ X → S w') ∧ pwpAnyE P md ops Q S X fuel (listed.setIfInBounds j true) a' w') a w) : pwpAnyE P md ops Q S X (fuel + 1) listed a w :=
  ⟨fun c => absurd (hr.symm.trans c) hne, fun j hj => h j (by rw [← hr]; exact hj)⟩
set_option maxRecDepth 100000 in
/-- An operation among others: it yields a value in a new world. -/
theorem EO_value {i : Nat} {o : Oper} (d : Nat) {v : Value} {fuel : Nat} {listed : Array Bool} {a : Act} {w w' : World} (ho : ops[i]? = some o) (hd : o.dst = some d)
    (hw : Region.wanted o (yielded ops a.tmps) = true) (hx : (execOp a.eval o).run P w = .ok (.value v) w') (h1 : S w')
    (h : pwpAnyE P md ops Q S X fuel (listed.setIfInBounds i true) (a.put (some d) v) w') :
    wpOp P ops Q i (fun a' w' => (i ≠ X → S w') ∧ pwpAnyE P md ops Q S X fuel (listed.setIfInBounds i true) a' w') a w := by
  refine wpOp_step ho (fun K' hK => ?_)
  rw [if_pos hw]
  unfold Oper.wp
  rw [hx]
  refine hK _ _ ⟨fun _ => h1, ?_⟩
  rw [hd]; exact h
end
end Go.Proofs.Ytplppnngmlljnaa

/- A node with other cells in the place of some. -/
namespace Go.Proofs.Ytplppnngmlljnaa
open Go.RowKit

theorem adds_dr (w : World) : Adds w w.drew := (Touch.refl _ w).drew
/-- A new row, as a slice. -/
def PRowV (el : TypeId) (w : World) (xs : List Value) (n : Nat) (e : Ending) (w' : World) : Prop := ∃ a cap, e = .returned (.slice a n cap) ∧ Hid (w'.ownsRow w.heap.size el 1 (.slice a n cap) n xs ∧ Adds w w')
theorem PRowV.of {f : Nat} {args : Array Value} {el : TypeId} {w : World} {xs : List Value} {n : Nat} (h : Calls Try.prog f args w (POwnV el w xs)) (hn : xs.length = n) : Calls Try.prog f args w (PRowV el w xs n) := by
  refine h.mono ?_
  rintro e w' ⟨v, rfl, H⟩
  obtain ⟨a, cap, rfl, _⟩ := own_cq H.out.1
  subst hn
  exact ⟨a, cap, rfl, H.out⟩
theorem row_setc {w : World} {B : Nat} {e : TypeId} {a : Option Addr} {m cap : Nat} {xs : List Value} (h : w.ownsRow B e 1 (.slice a m cap) m xs) {k : Nat} (hk : k < m) (u : Value) : ∃ g, a = some ⟨g, 0, none⟩ ∧ B ≤ g ∧ (w.setCell ⟨g, k, none⟩ u).ownsRow B e 1 (.slice a m cap) m (xs.set k u) ∧ w.frozen? ⟨g, k, none⟩ = false ∧ (w.cell? ⟨g, k, none⟩).isSome = true := by
  rcases h.2 with ⟨q, h0⟩ | ⟨g, cap2, cur, q, hb, hg, h1, h2, h3, h4⟩
  · omega
  · injection q with q1 q2 q3
    subst q1
    subst q3
    refine ⟨g, rfl, hb, ⟨by rw [List.length_set]; exact h.1, .inr ⟨g, cap, cur.setIfInBounds k u, rfl, hb, heap_setCell_same w g k cur e u hg, h1, h2, by rw [Array.size_setIfInBounds]; exact h3, ?_⟩⟩, frozen_of_row w g k cur e hg, ?_⟩
    · rw [Array.toList_setIfInBounds, Nat.mul_one, List.take_set, ← h4, Nat.mul_one]
    · rw [cellOf hg]
      simp
      omega
theorem row_apt {w : World} {B B' : Nat} {e e' : TypeId} {v u : Value} {n m : Nat} {xs ys : List Value} (h : w.ownsRow B e 1 v n xs) (h' : w.ownsRow B' e' 1 u m ys) (hne : e ≠ e') {j : Nat} (hj : v.ownBlock = some j) : u.ownBlock ≠ some j := fun c => by
  obtain ⟨c1, q1⟩ := row_type h hj
  obtain ⟨c2, q2⟩ := row_type h' c
  rw [q1] at q2
  injection q2 with q3
  injection q3 with _ q4 _
  exact hne q4
/-- The bytes are copied, one slice after the other. -/
structure Cl (B : Nat) (w3 wx : World) (N9 kl : Nat) (kx : List (List UInt8)) (v4 : Value) (a6 : Option Addr) (m c6 k : Nat) (bx : List Part) (hs : List Part) : Prop where
  box : wx.heap[N9]? = some (.cells #[.bool true, v4, .slice a6 m c6, .slice none 0 0] 28 (0, 0))
  keys : wx.ownsRow B 9 1 v4 kl (Ss kx)
  row : wx.ownsRow w3.heap.size 30 1 (.slice a6 m c6) m (hs.map PV)
  len : hs.length = m
  bs : hs.map (·.bs) = bx.map (·.bs)
  done : ∀ t (ht : t < hs.length), t < k → wx.ownsRow w3.heap.size 5 1 (PV hs[t]) hs[t].bs.length (S hs[t].bs)
  left : ∀ p ∈ hs, PQ wx (fun j => (Value.slice a6 m c6).ownBlock ≠ some j) p
  adds : Adds w3 wx
theorem Cl.step {B : Nat} {w3 wx w5 : World} {N9 kl : Nat} {kx : List (List UInt8)} {v4 : Value} {a6 : Option Addr} {m c6 k : Nat} {bx hs : List Part} (h : Cl B w3 wx N9 kl kx v4 a6 m c6 k bx hs) (hk : k < hs.length) {a7 : Option Addr} {c7 n : Nat} (hn : n = hs[k].bs.length)
    (h5 : w5.ownsRow wx.heap.size 5 1 (.slice a7 n c7) n (S hs[k].bs) ∧ Adds wx w5) : ∃ g, a6 = some ⟨g, 0, none⟩ ∧ w5.frozen? ⟨g, k, none⟩ = false ∧ (w5.cell? ⟨g, k, none⟩).isSome = true ∧ Cl B w3 (w5.setCell ⟨g, k, none⟩ (.slice a7 n c7)) N9 kl kx v4 a6 m c6 (k + 1) bx (hs.set k ⟨a7, hs[k].bs, c7⟩) := by
  subst hn
  have hr5 := row_touch h.row h5.2 (fun _ _ => id)
  obtain ⟨g, e6, hg, hrow, hfz, hsome⟩ := row_setc hr5 (by rw [← h.len]; exact hk) (.slice a7 hs[k].bs.length c7)
  subst e6
  have hgb : (Value.slice (some ⟨g, 0, none⟩) m c6).ownBlock = some g := rfl
  have hT : Touch (fun j => j = g) w5 (w5.setCell ⟨g, k, none⟩ (.slice a7 hs[k].bs.length c7)) := Touch.setCell (T := fun j => j = g) (Touch.refl _ w5) (p := ⟨g, k, none⟩) (fun _ => rfl) _
  have hne : N9 ≠ g := fun e => by
    subst e
    obtain ⟨cur, q⟩ := row_type h.row hgb
    rw [h.box] at q
    injection q with q1
    injection q1 with _ q2 _
    exact absurd q2 (by decide)
  have hz := h5.2.size
  refine ⟨g, rfl, hfz, hsome, ⟨?_, row_touch (row_touch h.keys h5.2 (fun _ _ => id)) hT (fun j hj e => row_apt h.keys h.row (by decide) hj (by rw [hgb, e])), ?_, by rw [List.length_set]; exact h.len, ?_, fun t ht htk => ?_, fun p hp => ?_, ?_⟩⟩
  · have q := box_adds h.box h5.2
    rw [hT.block N9 (Array.getElem?_eq_some_iff.1 q).1 hne]; exact q
  · rw [List.map_set]; exact hrow
  · rw [List.map_set, ← h.bs]
    apply List.ext_getElem?
    intro t
    by_cases e : t = k
    · subst e
      rw [List.getElem?_set_self (by simpa using hk), List.getElem?_map, List.getElem?_eq_getElem hk]; rfl
    · rw [List.getElem?_set_ne (fun c => e c.symm)]
  · by_cases e : t = k
    · subst e
      rw [List.getElem_set_self]
      exact row_lower (row_touch h5.1 hT (fun j hj c => row_apt h5.1 hr5 (by decide) hj (by rw [hgb, c]))) h.adds.size
    · rw [List.getElem_set_ne (fun c => e c.symm)]
      have ht' : t < hs.length := by rw [List.length_set] at ht; exact ht
      have q := h.done t ht' (by omega)
      exact row_touch (row_touch q h5.2 (fun _ _ => id)) hT (fun j hj c => row_apt q h.row (by decide) hj (by rw [hgb, c]))
  · rcases List.mem_or_eq_of_mem_set hp with hp | rfl
    · exact ((h.left p hp).adds h5.2).touch hT (fun j hj c => hj (by rw [hgb, c]))
    · obtain ⟨q1, q2, q3⟩ := own_sl h5.1
      injection q3.1 with e1 e2 e3
      subst e1
      subst e3
      have q4 : PQ w5 (fun j => wx.heap.size ≤ j) ⟨a7, hs[k].bs, c7⟩ := q3.2.2
      have hlt : g < wx.heap.size := by
        obtain ⟨cur, q⟩ := row_type h.row hgb
        exact (Array.getElem?_eq_some_iff.1 q).1
      refine (q4.touch hT (fun j hj c => by omega)).mono (fun j _ hj c => ?_)
      rw [hgb] at c
      have := Option.some.inj c
      omega
  · exact (h.adds.trans h5.2).then hT (fun j hj e => by omega)
theorem row_ne {w : World} {B : Nat} {e t : TypeId} {v : Value} {n : Nat} {xs : List Value} {N : Nat} {cs : Array Value} (h : w.ownsRow B e 1 v n xs) (hb : w.heap[N]? = some (.cells cs t (0, 0))) (hne : e ≠ t) {j : Nat} (hj : v.ownBlock = some j) (c : j = N) : False := by
  subst c
  obtain ⟨cur, q⟩ := row_type h hj
  rw [hb] at q
  injection q with q1
  injection q1 with _ q2 _
  exact hne q2.symm
def PRow5 (w : World) (bs : List UInt8) (n : Nat) (e : Ending) (w' : World) : Prop := ∃ a cap, e = .returned (.slice a n cap) ∧ Hid (w'.ownsRow w.heap.size 5 1 (.slice a n cap) n (S bs) ∧ Adds w w')
end Go.Proofs.Ytplppnngmlljnaa

/- A node without some of its cells. -/
namespace Go.Proofs.Ytplppnngmlljnaa
open Go.RowKit

/-- A block that is a node's box turns: rows stay. -/
theorem NOwn.touch {w w' : World} {B N : Nat} {z : NM} {cs : Array Value} (h : NOwn w B z) (hT : Touch (fun j => j = N) w w') (hb : w.heap[N]? = some (.cells cs 28 (0, 0))) : NOwn w' B z :=
  ⟨row_touch h.keys hT (fun j hj c => row_ne h.keys hb (by decide) hj c), row_touch h.vals hT (fun j hj c => row_ne h.vals hb (by decide) hj c), fun p hp => (h.each p hp).touch hT (fun k hk cs' fr e => by subst hk; rw [hb] at e; injection e with e1; injection e1 with _ e2 _; exact absurd e2 (by decide)), row_touch h.kids hT (fun j hj c => row_ne h.kids hb (by decide) hj c)⟩
theorem touch_row (w : World) (N : Nat) (cs : Array Value) : Touch (fun j => j = N) w (w.setRow N cs) := Touch.setRow (T := fun j => j = N) (Touch.refl _ w) (fun _ => rfl) _
theorem ptnode_end {w wE : World} {N1 : Nat} {z : NM} {R : N.Nd × Nat} {cs : Array Value} {er : Int} (hz : z.nd = R.1) (he : er = (R.2 : Int)) (ho : NOwn wE w.heap.size z) (hA : Adds w wE) (hN : wE.heap[N1]? = some (.cells cs 28 (0, 0))) (hge : w.heap.size ≤ N1) (cs' : Array Value) : PTnode w R (.returned (.tuple #[z.val, .int .i64 er])) (wE.setRow N1 cs') :=
  ⟨z, by rw [he], hz, ho.touch (touch_row wE N1 cs') hN, hA.then (touch_row wE N1 cs') (fun j hj e => by omega)⟩
theorem PNode.op {w : World} {n : N.Nd} {e : Ending} {w' : World} (h : PNode w n e w') : ∃ leaf ka kc ks va vc, ∃ hs : List Part, ∃ ia ic zs, e = .returned (.agg #[.bool leaf, .slice ka ks.length kc, .slice va hs.length vc, .slice ia zs.length ic]) ∧ Hid ((⟨leaf, ks, hs.map (·.bs), zs⟩ : N.Nd) = n ∧ NOwn w' w.heap.size ⟨leaf, ka, kc, ks, ⟨va, vc, hs⟩, ia, ic, zs⟩ ∧ Adds w w') := by
  obtain ⟨z, rfl, H⟩ := h
  exact ⟨z.leaf, z.ka, z.kc, z.ks, z.v.a, z.v.cap, z.v.l, z.ia, z.ic, z.is, rfl, H.out⟩
theorem NS.none : NS NM.none := ⟨by decide, by decide, by decide, fun b hb => (by cases hb), fun b hb => (by cases hb)⟩
theorem NQ.none (w : World) : NQ w (fun _ => True) NM.none := (NOwn.none w 0).nq.any
end Go.Proofs.Ytplppnngmlljnaa

/- A node that is being read: its box, its rows, a reader beside. -/
namespace Go.Proofs.Ytplppnngmlljnaa
open Go.RowKit

namespace N
def pkey (c : List UInt8) : List UInt8 := (M.textR 40 ⟨0, c⟩).1
def pst1 (c : List UInt8) : M.St := (M.textR 40 ⟨0, c⟩).2
def pval (c : List UInt8) : List UInt8 := (M.textR 49 (pst1 c)).1
def pkid (c : List UInt8) : Nat := (M.fixedR 4 (pst1 c)).1
def pst2 (leaf : Bool) (c : List UInt8) : M.St := if leaf then (M.textR 49 (pst1 c)).2 else (M.fixedR 4 (pst1 c)).2
def pbad (leaf : Bool) (c : List UInt8) : Bool := decide (M.endE (pst2 leaf c) ≠ 0)
def pnode (leaf : Bool) (l : List (List UInt8)) : Nd := ⟨leaf, l.map pkey, if leaf then l.map pval else [], if leaf then [] else l.map fun c => (pkid c : Int)⟩
def parse (bs : List UInt8) : Nd × Nat := if M.kindP bs ≠ 5 ∧ M.kindP bs ≠ 6 then (nil, 22) else if (M.cellsP bs).any (pbad (M.kindP bs == 5)) then (nil, 22) else told (pnode (M.kindP bs == 5) (M.cellsP bs))
end N
theorem RD.boxR {w : World} {p : Nat} {s : M.St} (h : RD w (.pointer (some ⟨p, 0, none⟩)) s) : ∃ cs, w.heap[p]? = some (.cells cs 114 (0, 0)) := by
  rcases h with ⟨e, _⟩ | ⟨q, e, hb, _⟩ | ⟨q, e, hR⟩
  · cases e
  · obtain rfl : p = q := by simpa using e
    exact ⟨_, hb⟩
  · obtain rfl : p = q := by simpa using e
    obtain ⟨a, cap, hb, _⟩ := hR.box
    exact ⟨_, hb⟩
/-- A node that is being read. -/
structure Pz (wc wx : World) (N5 : Nat) (leaf : Bool) (z : NM) : Prop where
  touch : Touch (fun j => j = N5) wc wx
  own : NOwn wx wc.heap.size z
  ck : ∀ g, z.kv.ownBlock = some g → Cold wx g
  cv : ∀ g, z.vv.ownBlock = some g → Cold wx g
  ci : ∀ g, z.iv.ownBlock = some g → Cold wx g
  box : wx.heap[N5]? = some (.cells #[.bool leaf, z.kv, z.vv, z.iv] 28 (0, 0))
  lf : z.leaf = leaf
theorem cold_touch {w w' : World} {T : Nat → Prop} {g : Nat} (h : Cold w g) (hT : Touch T w w') (hg : g < w.heap.size) (hn : ¬ T g) : Cold w' g := fun j c hc => by
  rw [World.cell?_of_block (w := w) (hT.block g hg hn)] at hc
  exact h j c hc
theorem row_lt {w : World} {B : Nat} {e : TypeId} {v : Value} {n : Nat} {xs : List Value} (h : w.ownsRow B e 1 v n xs) {j : Nat} (hj : v.ownBlock = some j) : j < w.heap.size := by
  obtain ⟨cur, q⟩ := row_type h hj
  exact (Array.getElem?_eq_some_iff.1 q).1
/-- Blocks turn that are neither the box nor rows: of another type, and new or the reader's. -/
theorem Pz.other {wc wx w' : World} {N5 : Nat} {leaf : Bool} {z : NM} (h : Pz wc wx N5 leaf z) {q : Nat} {cs : Array Value} {t : TypeId} (hb : wx.heap[q]? = some (.cells cs t (0, 0))) (ht : t ≠ 9 ∧ t ≠ 30 ∧ t ≠ 3 ∧ t ≠ 5 ∧ t ≠ 28) (hq : wc.heap.size ≤ q) (hT : Touch (fun j => j = q) wx w') : Pz wc w' N5 leaf z := by
  have n1 : ∀ j, z.kv.ownBlock = some j → ¬ j = q := fun j hj c => row_ne h.own.keys hb (fun e => ht.1 e.symm) hj c
  have n2 : ∀ j, z.vv.ownBlock = some j → ¬ j = q := fun j hj c => row_ne h.own.vals hb (fun e => ht.2.1 e.symm) hj c
  have n3 : ∀ j, z.iv.ownBlock = some j → ¬ j = q := fun j hj c => row_ne h.own.kids hb (fun e => ht.2.2.1 e.symm) hj c
  refine ⟨h.touch.then hT (fun j hj e => by omega), ⟨row_touch h.own.keys hT n1, row_touch h.own.vals hT n2, fun p hp => (h.own.each p hp).touch hT (fun k hk cs' fr e => ?_), row_touch h.own.kids hT n3⟩, fun g hg => cold_touch (h.ck g hg) hT (row_lt h.own.keys hg) (n1 g hg), fun g hg => cold_touch (h.cv g hg) hT (row_lt h.own.vals hg) (n2 g hg), fun g hg => cold_touch (h.ci g hg) hT (row_lt h.own.kids hg) (n3 g hg), ?_, h.lf⟩
  · subst hk
    rw [hb] at e
    injection e with e1
    injection e1 with _ e2 _
    exact ht.2.2.2.1 e2
  · rw [hT.block N5 (Array.getElem?_eq_some_iff.1 h.box).1 (fun c => ?_)]
    · exact h.box
    · subst c
      have := h.box
      rw [hb] at this
      injection this with e1
      injection e1 with _ e2 _
      exact ht.2.2.2.2 e2
theorem Pz.adds {wc wx w' : World} {N5 : Nat} {leaf : Bool} {z : NM} (h : Pz wc wx N5 leaf z) (hA : Adds wx w') : Pz wc w' N5 leaf z :=
  ⟨h.touch.then hA (fun _ _ c => c.elim), h.own.adds hA, fun g hg => cold_touch (h.ck g hg) hA (row_lt h.own.keys hg) id, fun g hg => cold_touch (h.cv g hg) hA (row_lt h.own.vals hg) id, fun g hg => cold_touch (h.ci g hg) hA (row_lt h.own.kids hg) id, box_adds h.box hA, h.lf⟩
/-- A reader's call. -/
theorem Pz.read {wc wx w' : World} {N5 p : Nat} {leaf : Bool} {z : NM} {s : M.St} (h : Pz wc wx N5 leaf z) (hr : RD wx (.pointer (some ⟨p, 0, none⟩)) s) (hp : wc.heap.size ≤ p) (hT : Touch (Own1 (.pointer (some ⟨p, 0, none⟩))) wx w') : Pz wc w' N5 leaf z := by
  obtain ⟨cs, hb⟩ := hr.boxR
  refine h.other hb (by decide) hp (hT.mono (fun j _ c => ?_))
  simp only [Own1, Value.pointer.injEq, Option.some.injEq, Addr.mk.injEq] at c
  exact c.1.symm
theorem cold_box {w : World} {N5 : Nat} {leaf : Bool} {a b c : Option Addr} {a1 a2 b1 b2 c1 c2 : Nat} (h : w.heap[N5]? = some (.cells #[.bool leaf, .slice a a1 a2, .slice b b1 b2, .slice c c1 c2] 28 (0, 0))) : Cold w N5 := by
  refine cold_cells h (fun u hu c e => ?_)
  simp at hu
  rcases hu with rfl | rfl | rfl | rfl <;> cases e
/-- The reader stays when a row without bytes grows. -/
theorem RD.grown {w w' : World} {p : Nat} {s : M.St} {B n : Nat} {e : TypeId} {v : Value} {xs : List Value} (h : RD w (.pointer (some ⟨p, 0, none⟩)) s) (hr : w.ownsRow B e 1 v n xs) (he : e ≠ 114) (hc : ∀ g, v.ownBlock = some g → Cold w g) (hT : Touch (fun j => v.ownBlock = some j) w w') : RD w' (.pointer (some ⟨p, 0, none⟩)) s := by
  obtain ⟨cs, hb⟩ := h.boxR
  refine h.keep hT (fun k hk => hc k hk) (fun k hk c => ?_)
  simp only [Own1, Value.pointer.injEq, Option.some.injEq, Addr.mk.injEq] at hk
  exact row_ne hr hb he c hk.1.symm
theorem RD.boxed {w : World} {p N5 j : Nat} {s : M.St} {leaf : Bool} {z : NM} {v : Value} (h : RD w (.pointer (some ⟨p, 0, none⟩)) s) (hb : w.heap[N5]? = some (.cells #[.bool leaf, z.kv, z.vv, z.iv] 28 (0, 0))) : RD (w.setCell ⟨N5, j, none⟩ v) (.pointer (some ⟨p, 0, none⟩)) s := by
  obtain ⟨cs, hr⟩ := h.boxR
  have hT : Touch (fun k => k = N5) w (w.setCell ⟨N5, j, none⟩ v) := Touch.setCell (T := fun k => k = N5) (Touch.refl _ w) (p := ⟨N5, j, none⟩) (fun _ => rfl) _
  refine h.keep hT (fun k hk => by subst hk; exact cold_box hb) (fun k hk c => ?_)
  simp only [Own1, Value.pointer.injEq, Option.some.injEq, Addr.mk.injEq] at hk
  have e : p = N5 := by omega
  subst e
  rw [hr] at hb
  injection hb with e1
  injection e1 with _ e2 _
  exact absurd e2 (by decide)
/-- A key more. -/
theorem Pz.key {wc W w' : World} {N5 : Nat} {leaf : Bool} {z : NM} {key : List UInt8} {v' : Value} (h : Pz wc W N5 leaf z) (r1 : w'.ownsRow wc.heap.size 9 1 v' (z.ks.length + 1) (Ss z.ks ++ [Str key])) (r2 : Touch (fun j => z.kv.ownBlock = some j) W w') (r4 : ∀ g, v'.ownBlock = some g → Cold w' g) :
    ∃ a' c', v' = .slice a' (z.ks.length + 1) c' ∧ w'.heap[N5]? = some (.cells #[.bool leaf, z.kv, z.vv, z.iv] 28 (0, 0)) ∧ Pz wc (w'.setCell ⟨N5, 1, none⟩ v') N5 leaf ⟨z.leaf, a', c', z.ks ++ [key], z.v, z.ia, z.ic, z.is⟩ := by
  obtain ⟨a', c', rfl, _⟩ := own_cq r1
  have hT : Touch (fun k => k = N5) w' (w'.setCell ⟨N5, 1, none⟩ (.slice a' (z.ks.length + 1) c')) := Touch.setCell (T := fun k => k = N5) (Touch.refl _ w') (p := ⟨N5, 1, none⟩) (fun _ => rfl) _
  have hbx : w'.heap[N5]? = some (.cells #[.bool leaf, z.kv, z.vv, z.iv] 28 (0, 0)) := by
    rw [r2.block N5 (Array.getElem?_eq_some_iff.1 h.box).1 (fun c => row_ne h.own.keys h.box (by decide) c rfl)]; exact h.box
  have k2 := row_touch h.own.vals r2 (fun j hj c => row_apt h.own.vals h.own.keys (by decide) hj c)
  have k3 := row_touch h.own.kids r2 (fun j hj c => row_apt h.own.kids h.own.keys (by decide) hj c)
  have hlow : ∀ j, z.kv.ownBlock = some j → wc.heap.size ≤ j := fun j hj => by
    rcases h.own.keys.2 with ⟨q, _⟩ | ⟨g, cap, cur, q, hb', _⟩
    · rw [q] at hj; cases hj
    · rw [q] at hj
      have e : g = j := Option.some.inj hj
      omega
  have ns : ∀ {e : TypeId} {v : Value} {n : Nat} {xs : List Value}, w'.ownsRow wc.heap.size e 1 v n xs → e ≠ 28 → ∀ j, v.ownBlock = some j → ¬ j = N5 := fun hr he j hj c => row_ne hr hbx he hj c
  have e9 : (z.ks ++ [key]).length = z.ks.length + 1 := by simp
  refine ⟨a', c', rfl, hbx, ⟨(h.touch.then r2 (fun j hj c => by have := hlow j c; omega)).then hT (fun j _ c => c), ⟨?_, row_touch k2 hT (ns k2 (by decide)), fun p hp => (((h.own.each p hp).touch r2 (fun k hk cs fr e => ?_))).touch hT (fun k hk cs fr e => ?_), row_touch k3 hT (ns k3 (by decide))⟩, fun g hg => ?_, fun g hg => ?_, fun g hg => ?_, ?_, h.lf⟩⟩
  · show World.ownsRow _ wc.heap.size 9 1 (.slice a' (z.ks ++ [key]).length c') (z.ks ++ [key]).length (Ss (z.ks ++ [key]))
    rw [e9, show Ss (z.ks ++ [key]) = Ss z.ks ++ [Str key] by simp [Ss]]
    exact row_touch r1 hT (ns r1 (by decide))
  · obtain ⟨cur, q⟩ := row_type h.own.keys hk
    rw [q] at e
    injection e with e1
    injection e1 with _ e2 _
    exact absurd e2 (by decide)
  · subst hk
    rw [hbx] at e
    injection e with e1
    injection e1 with _ e2 _
    exact absurd e2 (by decide)
  · have hg' : (Value.slice a' (z.ks.length + 1) c').ownBlock = some g := by rw [← e9]; exact hg
    exact cold_touch (r4 g hg') hT (row_lt r1 hg') (ns r1 (by decide) g hg')
  · exact cold_touch (cold_touch (h.cv g hg) r2 (row_lt h.own.vals hg) (fun c => row_apt h.own.vals h.own.keys (by decide) hg c)) hT (row_lt k2 hg) (ns k2 (by decide) g hg)
  · exact cold_touch (cold_touch (h.ci g hg) r2 (row_lt h.own.kids hg) (fun c => row_apt h.own.kids h.own.keys (by decide) hg c)) hT (row_lt k3 hg) (ns k3 (by decide) g hg)
  · rw [heap_setCell_same w' N5 1 _ 28 _ hbx]
    show _ = some (Obj.cells #[.bool leaf, .slice a' (z.ks ++ [key]).length c', z.vv, z.iv] 28 (0, 0))
    rw [e9]; rfl
/-- A value more. -/
theorem Pz.value {wc W w' : World} {N5 : Nat} {leaf : Bool} {z : NM} {y : Part} {v' : Value} (h : Pz wc W N5 leaf z) (hy : PT W wc.heap.size y) (r1 : w'.ownsRow wc.heap.size 30 1 v' (z.v.l.length + 1) (z.v.l.map PV ++ [PV y])) (r2 : Touch (fun j => z.vv.ownBlock = some j) W w') (r4 : ∀ g, v'.ownBlock = some g → Cold w' g) :
    ∃ a' c', v' = .slice a' (z.v.l.length + 1) c' ∧ w'.heap[N5]? = some (.cells #[.bool leaf, z.kv, z.vv, z.iv] 28 (0, 0)) ∧ Pz wc (w'.setCell ⟨N5, 2, none⟩ v') N5 leaf ⟨z.leaf, z.ka, z.kc, z.ks, ⟨a', c', z.v.l ++ [y]⟩, z.ia, z.ic, z.is⟩ := by
  obtain ⟨a', c', rfl, _⟩ := own_cq r1
  have hT : Touch (fun k => k = N5) w' (w'.setCell ⟨N5, 2, none⟩ (.slice a' (z.v.l.length + 1) c')) := Touch.setCell (T := fun k => k = N5) (Touch.refl _ w') (p := ⟨N5, 2, none⟩) (fun _ => rfl) _
  have hbx : w'.heap[N5]? = some (.cells #[.bool leaf, z.kv, z.vv, z.iv] 28 (0, 0)) := by
    rw [r2.block N5 (Array.getElem?_eq_some_iff.1 h.box).1 (fun c => row_ne h.own.vals h.box (by decide) c rfl)]; exact h.box
  have k2 := row_touch h.own.keys r2 (fun j hj c => row_apt h.own.keys h.own.vals (by decide) hj c)
  have k3 := row_touch h.own.kids r2 (fun j hj c => row_apt h.own.kids h.own.vals (by decide) hj c)
  have hlow : ∀ j, z.vv.ownBlock = some j → wc.heap.size ≤ j := fun j hj => by
    rcases h.own.vals.2 with ⟨q, _⟩ | ⟨g, cap, cur, q, hb', _⟩
    · rw [q] at hj; cases hj
    · rw [q] at hj
      have e : g = j := Option.some.inj hj
      omega
  have ns : ∀ {e : TypeId} {v : Value} {n : Nat} {xs : List Value}, w'.ownsRow wc.heap.size e 1 v n xs → e ≠ 28 → ∀ j, v.ownBlock = some j → ¬ j = N5 := fun hr he j hj c => row_ne hr hbx he hj c
  have e9 : (z.v.l ++ [y]).length = z.v.l.length + 1 := by simp
  refine ⟨a', c', rfl, hbx, ⟨(h.touch.then r2 (fun j hj c => by have := hlow j c; omega)).then hT (fun j _ c => c), ⟨row_touch k2 hT (ns k2 (by decide)), ?_, fun p hp => (((show PT W wc.heap.size p from by rcases List.mem_append.1 hp with hp | hp; exact h.own.each p hp; rw [List.mem_singleton.1 hp]; exact hy).touch r2 (fun k hk cs fr e => ?_))).touch hT (fun k hk cs fr e => ?_), row_touch k3 hT (ns k3 (by decide))⟩, fun g hg => ?_, fun g hg => ?_, fun g hg => ?_, ?_, h.lf⟩⟩
  · show World.ownsRow _ wc.heap.size 30 1 (.slice a' (z.v.l ++ [y]).length c') (z.v.l ++ [y]).length ((z.v.l ++ [y]).map PV)
    rw [e9, List.map_append]
    exact row_touch r1 hT (ns r1 (by decide))
  · obtain ⟨cur, q⟩ := row_type h.own.vals hk
    rw [q] at e
    injection e with e1
    injection e1 with _ e2 _
    exact absurd e2 (by decide)
  · subst hk
    rw [hbx] at e
    injection e with e1
    injection e1 with _ e2 _
    exact absurd e2 (by decide)
  · exact cold_touch (cold_touch (h.ck g hg) r2 (row_lt h.own.keys hg) (fun c => row_apt h.own.keys h.own.vals (by decide) hg c)) hT (row_lt k2 hg) (ns k2 (by decide) g hg)
  · have hg' : (Value.slice a' (z.v.l.length + 1) c').ownBlock = some g := by rw [← e9]; exact hg
    exact cold_touch (r4 g hg') hT (row_lt r1 hg') (ns r1 (by decide) g hg')
  · exact cold_touch (cold_touch (h.ci g hg) r2 (row_lt h.own.kids hg) (fun c => row_apt h.own.kids h.own.vals (by decide) hg c)) hT (row_lt k3 hg) (ns k3 (by decide) g hg)
  · rw [heap_setCell_same w' N5 2 _ 28 _ hbx]
    show _ = some (Obj.cells #[.bool leaf, z.kv, .slice a' (z.v.l ++ [y]).length c', z.iv] 28 (0, 0))
    rw [e9]; rfl
/-- A kid more. -/
theorem Pz.kid {wc W w' : World} {N5 : Nat} {leaf : Bool} {z : NM} {kid : Int} {v' : Value} (h : Pz wc W N5 leaf z) (r1 : w'.ownsRow wc.heap.size 3 1 v' (z.is.length + 1) (Is z.is ++ [.int .i64 kid])) (r2 : Touch (fun j => z.iv.ownBlock = some j) W w') (r4 : ∀ g, v'.ownBlock = some g → Cold w' g) :
    ∃ a' c', v' = .slice a' (z.is.length + 1) c' ∧ w'.heap[N5]? = some (.cells #[.bool leaf, z.kv, z.vv, z.iv] 28 (0, 0)) ∧ Pz wc (w'.setCell ⟨N5, 3, none⟩ v') N5 leaf ⟨z.leaf, z.ka, z.kc, z.ks, z.v, a', c', z.is ++ [kid]⟩ := by
  obtain ⟨a', c', rfl, _⟩ := own_cq r1
  have hT : Touch (fun k => k = N5) w' (w'.setCell ⟨N5, 3, none⟩ (.slice a' (z.is.length + 1) c')) := Touch.setCell (T := fun k => k = N5) (Touch.refl _ w') (p := ⟨N5, 3, none⟩) (fun _ => rfl) _
  have hbx : w'.heap[N5]? = some (.cells #[.bool leaf, z.kv, z.vv, z.iv] 28 (0, 0)) := by
    rw [r2.block N5 (Array.getElem?_eq_some_iff.1 h.box).1 (fun c => row_ne h.own.kids h.box (by decide) c rfl)]; exact h.box
  have k2 := row_touch h.own.vals r2 (fun j hj c => row_apt h.own.vals h.own.kids (by decide) hj c)
  have k3 := row_touch h.own.keys r2 (fun j hj c => row_apt h.own.keys h.own.kids (by decide) hj c)
  have hlow : ∀ j, z.iv.ownBlock = some j → wc.heap.size ≤ j := fun j hj => by
    rcases h.own.kids.2 with ⟨q, _⟩ | ⟨g, cap, cur, q, hb', _⟩
    · rw [q] at hj; cases hj
    · rw [q] at hj
      have e : g = j := Option.some.inj hj
      omega
  have ns : ∀ {e : TypeId} {v : Value} {n : Nat} {xs : List Value}, w'.ownsRow wc.heap.size e 1 v n xs → e ≠ 28 → ∀ j, v.ownBlock = some j → ¬ j = N5 := fun hr he j hj c => row_ne hr hbx he hj c
  have e9 : (z.is ++ [kid]).length = z.is.length + 1 := by simp
  refine ⟨a', c', rfl, hbx, ⟨(h.touch.then r2 (fun j hj c => by have := hlow j c; omega)).then hT (fun j _ c => c), ⟨row_touch k3 hT (ns k3 (by decide)), row_touch k2 hT (ns k2 (by decide)), fun p hp => (((h.own.each p hp).touch r2 (fun k hk cs fr e => ?_))).touch hT (fun k hk cs fr e => ?_), ?_⟩, fun g hg => ?_, fun g hg => ?_, fun g hg => ?_, ?_, h.lf⟩⟩
  · obtain ⟨cur, q⟩ := row_type h.own.kids hk
    rw [q] at e
    injection e with e1
    injection e1 with _ e2 _
    exact absurd e2 (by decide)
  · subst hk
    rw [hbx] at e
    injection e with e1
    injection e1 with _ e2 _
    exact absurd e2 (by decide)
  · show World.ownsRow _ wc.heap.size 3 1 (.slice a' (z.is ++ [kid]).length c') (z.is ++ [kid]).length (Is (z.is ++ [kid]))
    rw [e9, show Is (z.is ++ [kid]) = Is z.is ++ [.int .i64 kid] by simp [Is]]
    exact row_touch r1 hT (ns r1 (by decide))
  · exact cold_touch (cold_touch (h.ck g hg) r2 (row_lt h.own.keys hg) (fun c => row_apt h.own.keys h.own.kids (by decide) hg c)) hT (row_lt k3 hg) (ns k3 (by decide) g hg)
  · exact cold_touch (cold_touch (h.cv g hg) r2 (row_lt h.own.vals hg) (fun c => row_apt h.own.vals h.own.kids (by decide) hg c)) hT (row_lt k2 hg) (ns k2 (by decide) g hg)
  · have hg' : (Value.slice a' (z.is.length + 1) c').ownBlock = some g := by rw [← e9]; exact hg
    exact cold_touch (r4 g hg') hT (row_lt r1 hg') (ns r1 (by decide) g hg')
  · rw [heap_setCell_same w' N5 3 _ 28 _ hbx]
    show _ = some (Obj.cells #[.bool leaf, z.kv, z.vv, .slice a' (z.is ++ [kid]).length c'] 28 (0, 0))
    rw [e9]; rfl
end Go.Proofs.Ytplppnngmlljnaa

/- An append of a whole list to an empty one that was just made; a node that is being copied. -/
namespace Go.Proofs.Ytplppnngmlljnaa
open Go.RowKit

theorem run_append_lit {w : World} {Q : Nat → Prop} (t ty e : TypeId) (i : TypeInfo) (z : Value) (by_ : Nat) (ht : Try.prog.underlying t = some (.slice e)) (hi : Try.prog.info? e = some i) (hz : i.zero = some z) (hs : i.size = 1) (hby : i.bytes = by_) (hz1 : z.cells.size = 1) (B g : Nat) (hB : B ≤ g) (hb : w.heap[g]? = some (.cells #[] e (0, 0)))
    (a : Option Addr) (m cap : Nat) (news : List Value) (hm : news.length = m) (hA : CQ w Q a news) (hcap : a = none → cap = 0) (h1 : ∀ u ∈ news, u.oneCell' = true) (hm9 : m * by_ ≤ 140737488355328) (hby1 : 1 ≤ by_) :
    ∃ a' c' w', (Builtin.append_ #[t, t] ty #[.slice (some ⟨g, 0, none⟩) 0 0, .slice a m cap]).run Try.prog w = .ok (.slice a' m c') w' ∧ w'.ownsRow B e 1 (.slice a' m c') m news ∧ Adds w w' := by
  have hg : g < w.heap.size := (Array.getElem?_eq_some_iff.1 hb).1
  have hm8 : m ≤ 140737488355328 := Nat.le_trans (Nat.le_mul_of_pos_right m hby1) hm9
  have hown : w.ownsRow B e 1 (.slice (some ⟨g, 0, none⟩) 0 0) 0 [] := ⟨rfl, .inr ⟨g, 0, #[], rfl, hB, hb, Nat.le_refl _, by decide, rfl, rfl⟩⟩
  cases a with
  | none =>
    obtain rfl : news = [] := by
      cases news with
      | nil => rfl
      | cons u l => obtain ⟨b, o', e, _⟩ := hA 0 u rfl; cases e
    obtain rfl : m = 0 := by rw [← hm]; rfl
    obtain rfl := hcap rfl
    refine ⟨some ⟨g, 0, none⟩, 0, w, ?_, hown, Touch.refl _ w⟩
    exact run_append_owned_none (P := Try.prog) (w := w) B t ty e i 1 ht hi _ 0 [] hown
  | some ad =>
    have hnews : ∀ (j : Nat) (y : Value), news[j]? = some y → w.cell? (ad.add j) = some y := fun j y hj => by
      obtain ⟨b, o', e, _, hc⟩ := hA j y hj
      obtain rfl : ad = ⟨b, o', none⟩ := by simpa using e
      rw [Addr.add_mid]; exact hc
    by_cases h0 : m = 0
    · subst h0
      obtain rfl := List.eq_nil_of_length_eq_zero hm
      have hr := run_append_room (P := Try.prog) w t ty e i ht hi g 0 0 #[] hb ad 0 cap [] (by rw [hs]; rfl) hnews h1 (Nat.le_refl _) (by simp)
      have hsr := setRow_heap w g #[] (#[].toList.take (0 * i.size) ++ ([] : List Value) ++ #[].toList.drop (0 * i.size + ([] : List Value).length)).toArray e _ hb
      refine ⟨some ⟨g, 0, none⟩, 0, _, hr, ⟨rfl, .inr ⟨g, 0, #[], rfl, hB, by rw [hsr]; simp, Nat.le_refl _, by decide, rfl, rfl⟩⟩, ⟨rfl, rfl, rfl, by simp, fun k _ _ => ?_⟩⟩
      by_cases e : k = g
      · subst e
        rw [hsr, hb]; simp
      · exact setRow_other w g k _ e
    · have hr := run_append_grow (P := Try.prog) w t ty e i z ht hi hz ⟨g, 0, none⟩ 0 0 [] (by simp) (by simp) ad m cap news (by rw [hs]; omega) hnews (by omega) (by omega) (growslice_fits (by omega) (by rw [hby, Nat.zero_add]; exact hm9))
      obtain ⟨v', w', hrun, r1, _⟩ := run_append_own_at (P := Try.prog) w B t ty e i z 1 by_ ht hi hz hs hby hz1 (by decide) _ 0 [] hown ad m cap news (by omega) hnews h1 (by unfold maxLen; omega) (by rw [Nat.zero_add]; exact hm9) (by omega)
      rw [hr] at hrun
      injection hrun with e1 e2
      subst e1
      subst e2
      rw [Nat.zero_add, List.nil_append] at r1
      rw [Nat.zero_add] at hr
      exact ⟨_, _, _, hr, r1, ((Touch.refl _ w).drew).alloc _⟩
theorem wp_append_lit {o : Oper} {act : Act} {w : World} {K : Act → World → Prop} {QQ : Exit → Act → World → Prop} {Q : Nat → Prop} (t e : TypeId) (i : TypeInfo) (z : Value) (by_ : Nat) (ht : Try.prog.underlying t = some (.slice e)) (hi : Try.prog.info? e = some i) (hz : i.zero = some z) (hs : i.size = 1) (hby : i.bytes = by_) (hz1 : z.cells.size = 1) (s x : Operand)
    (hop : o.op = Op.call { callee := Callee.builtin Builtin.append, args := #[s, x], argTypes := #[t, t] }) (B g : Nat) (hB : B ≤ g) (hb : w.heap[g]? = some (.cells #[] e (0, 0))) (hsv : act.eval s = .slice (some ⟨g, 0, none⟩) 0 0)
    (a : Option Addr) (m cap : Nat) (news : List Value) (hx : act.eval x = .slice a m cap) (hm : news.length = m) (hA : CQ w Q a news) (hcap : a = none → cap = 0) (h1 : ∀ u ∈ news, u.oneCell' = true) (hm9 : m * by_ ≤ 140737488355328) (hby1 : 1 ≤ by_)
    (hK : ∀ a' c' w', w'.ownsRow B e 1 (.slice a' m c') m news → Adds w w' → K (act.put o.dst (.slice a' m c')) w') : Oper.wp Try.prog o act w K QQ := by
  obtain ⟨a', c', w', hrun, r1, r2⟩ := run_append_lit t o.type e i z by_ ht hi hz hs hby hz1 B g hB hb a m cap news hm hA hcap h1 hm9 hby1
  unfold Oper.wp
  simp [execOp, hop, resolve, invoke, builtin, hsv, hx, hrun, Result.andThen]
  exact hK a' c' w' r1 r2
section
variable {P : Program} {ops : Array Oper} {Q : Exit → Act → World → Prop} {md : Region.Mode} {S : World → Prop} {X : Nat}
/-- An operation among others, by its law. -/
theorem EO_do {i : Nat} {o : Oper} (d : Option Nat) {fuel : Nat} {listed : Array Bool} {a : Act} {w : World} (ho : ops[i]? = some o) (hd : o.dst = d) (hg : o.guard = none)
    (h : ∀ K' : Act → World → Prop, (∀ v w, (i ≠ X → S w) → pwpAnyE P md ops Q S X fuel (listed.setIfInBounds i true) (a.put d v) w → K' (a.put o.dst v) w) → Oper.wp P o a w K' Q) :
    wpOp P ops Q i (fun a' w' => (i ≠ X → S w') ∧ pwpAnyE P md ops Q S X fuel (listed.setIfInBounds i true) a' w') a w := by
  refine wpOp_step ho (fun K' hK => ?_)
  rw [if_pos (by simp [Region.wanted, hg])]
  exact h K' (fun v w h1 h2 => hK _ _ ⟨h1, by rw [hd]; exact h2⟩)
end
/-- A node that memory can hold. -/
structure NBig (x : NM) : Prop where
  k : x.ks.length * 16 ≤ 140737488355328
  v : x.v.l.length * 24 ≤ 140737488355328
  i : x.is.length * 8 ≤ 140737488355328
  vl : ∀ b ∈ x.v.l, b.bs.length * 1 ≤ 140737488355328
/-- A node that is being copied: its box, its rows. -/
structure Pc (w wx : World) (N5 : Nat) (leaf : Bool) (z : NM) : Prop where
  adds : Adds w wx
  hN : w.heap.size ≤ N5
  own : NOwn wx w.heap.size z
  box : wx.heap[N5]? = some (.cells #[.bool leaf, z.kv, z.vv, z.iv] 28 (0, 0))
  lf : z.leaf = leaf
theorem Pc.more {w wx w' : World} {N5 : Nat} {leaf : Bool} {z : NM} (h : Pc w wx N5 leaf z) (hA : Adds wx w') : Pc w w' N5 leaf z := ⟨h.adds.trans hA, h.hN, h.own.adds hA, box_adds h.box hA, h.lf⟩
/-- The beginning: keys and numbers lie there, no value. -/
theorem pc_made {w w1 wx : World} {N5 : Nat} {leaf : Bool} {ks : List (List UInt8)} {zs : List Int} {ka ia : Option Addr} {kn kc zn ic : Nat} {o : Array Value} (hA : Adds w w1) (hA2 : Adds w1 wx) (hN : w.heap.size ≤ N5) (hb : wx.heap[N5]? = some (.cells o 28 (0, 0)))
    (hk : wx.ownsRow w.heap.size 9 1 (.slice ka kn kc) kn (Ss ks)) (hi : wx.ownsRow w.heap.size 3 1 (.slice ia zn ic) zn (Is zs)) (hkn : kn = ks.length) (hzn : zn = zs.length) :
    Pc w (wx.setRow N5 #[.bool leaf, .slice ka kn kc, .slice none 0 0, .slice ia zn ic]) N5 leaf ⟨leaf, ka, kc, ks, ⟨none, 0, []⟩, ia, ic, zs⟩ := by
  subst hkn
  subst hzn
  have hT : Touch (fun j => j = N5) wx (wx.setRow N5 #[.bool leaf, .slice ka ks.length kc, .slice none 0 0, .slice ia zs.length ic]) := Touch.setRow (T := fun j => j = N5) (Touch.refl _ _) (fun _ => rfl) _
  refine ⟨(hA.trans hA2).then hT (fun j hj e => by omega), hN, ⟨row_touch hk hT (fun j hj c => row_ne hk hb (by decide) hj c), World.ownsRow_nil _ _ _ _, fun p hp => (by cases hp), row_touch hi hT (fun j hj c => row_ne hi hb (by decide) hj c)⟩, setRow_heap wx N5 _ _ 28 _ hb, rfl⟩
/-- A value more. -/
theorem Pc.value {w W w' : World} {N5 : Nat} {leaf : Bool} {z : NM} {y : Part} {v' : Value} (h : Pc w W N5 leaf z) (hy : PT W w.heap.size y) (r1 : w'.ownsRow w.heap.size 30 1 v' (z.v.l.length + 1) (z.v.l.map PV ++ [PV y])) (r2 : Touch (fun j => z.vv.ownBlock = some j) W w') :
    ∃ a' c', v' = .slice a' (z.v.l.length + 1) c' ∧ w'.heap[N5]? = some (.cells #[.bool leaf, z.kv, z.vv, z.iv] 28 (0, 0)) ∧ Pc w (w'.setCell ⟨N5, 2, none⟩ v') N5 leaf ⟨z.leaf, z.ka, z.kc, z.ks, ⟨a', c', z.v.l ++ [y]⟩, z.ia, z.ic, z.is⟩ := by
  obtain ⟨a', c', rfl, _⟩ := own_cq r1
  have hT : Touch (fun k => k = N5) w' (w'.setCell ⟨N5, 2, none⟩ (.slice a' (z.v.l.length + 1) c')) := Touch.setCell (T := fun k => k = N5) (Touch.refl _ w') (p := ⟨N5, 2, none⟩) (fun _ => rfl) _
  have hbx : w'.heap[N5]? = some (.cells #[.bool leaf, z.kv, z.vv, z.iv] 28 (0, 0)) := by
    rw [r2.block N5 (Array.getElem?_eq_some_iff.1 h.box).1 (fun c => row_ne h.own.vals h.box (by decide) c rfl)]; exact h.box
  have k2 := row_touch h.own.keys r2 (fun j hj c => row_apt h.own.keys h.own.vals (by decide) hj c)
  have k3 := row_touch h.own.kids r2 (fun j hj c => row_apt h.own.kids h.own.vals (by decide) hj c)
  have hlow : ∀ j, z.vv.ownBlock = some j → w.heap.size ≤ j := fun j hj => by
    rcases h.own.vals.2 with ⟨q, _⟩ | ⟨g, cap, cur, q, hb', _⟩
    · rw [q] at hj; cases hj
    · rw [q] at hj
      have e : g = j := Option.some.inj hj
      omega
  have ns : ∀ {e : TypeId} {v : Value} {n : Nat} {xs : List Value}, w'.ownsRow w.heap.size e 1 v n xs → e ≠ 28 → ∀ j, v.ownBlock = some j → ¬ j = N5 := fun hr he j hj c => row_ne hr hbx he hj c
  have e9 : (z.v.l ++ [y]).length = z.v.l.length + 1 := by simp
  have hN := h.hN
  refine ⟨a', c', rfl, hbx, ⟨(h.adds.then r2 (fun j hj c => by have := hlow j c; omega)).then hT (fun j hj c => by omega), hN, ⟨row_touch k2 hT (ns k2 (by decide)), ?_, fun p hp => (((show PT W w.heap.size p from by rcases List.mem_append.1 hp with hp | hp; exact h.own.each p hp; rw [List.mem_singleton.1 hp]; exact hy).touch r2 (fun k hk cs fr e => ?_))).touch hT (fun k hk cs fr e => ?_), row_touch k3 hT (ns k3 (by decide))⟩, ?_, h.lf⟩⟩
  · show World.ownsRow _ w.heap.size 30 1 (.slice a' (z.v.l ++ [y]).length c') (z.v.l ++ [y]).length ((z.v.l ++ [y]).map PV)
    rw [e9, List.map_append]
    exact row_touch r1 hT (ns r1 (by decide))
  · obtain ⟨cur, q⟩ := row_type h.own.vals hk
    rw [q] at e
    injection e with e1
    injection e1 with _ e2 _
    exact absurd e2 (by decide)
  · subst hk
    rw [hbx] at e
    injection e with e1
    injection e1 with _ e2 _
    exact absurd e2 (by decide)
  · rw [heap_setCell_same w' N5 2 _ 28 _ hbx]
    show _ = some (Obj.cells #[.bool leaf, z.kv, .slice a' (z.v.l ++ [y]).length c', z.iv] 28 (0, 0))
    rw [e9]; rfl
end Go.Proofs.Ytplppnngmlljnaa

/- A node of its own memory, as the law copies it. -/
namespace Go.Proofs.Ytplppnngmlljnaa
open Go.RowKit

set_option maxRecDepth 100000 in
set_option maxHeartbeats 8000000 in
theorem copied_big (x : NM) (w : World) {Q : Nat → Prop} (h : NQ w Q x) (hs : NBig x) : Calls Try.prog 10 #[x.val] w (PNode w x.nd) := by
  obtain ⟨leaf, ka, kc, ks, g, ia, ic, zs⟩ := x
  have HQ := hid h
  have HVs := hid hs.vl
  have k9 : ks.length * 16 ≤ 140737488355328 := hs.k
  have v9 : g.l.length * 24 ≤ 140737488355328 := hs.v
  have z9 : zs.length * 8 ≤ 140737488355328 := hs.i
  clear h hs
  obtain ⟨kn, hkn⟩ : ∃ kn, kn = ks.length := ⟨_, rfl⟩
  obtain ⟨vn, hvn⟩ : ∃ vn, vn = g.l.length := ⟨_, rfl⟩
  obtain ⟨zn, hzn⟩ : ∃ zn, zn = zs.length := ⟨_, rfl⟩
  obtain ⟨ga, hga⟩ : ∃ a, a = g.a := ⟨_, rfl⟩
  unfold NM.val NM.kv NM.vv NM.iv
  simp only [← hkn, ← hvn, ← hzn, ← hga] at k9 v9 z9 ⊢
  have HKn := hid hkn
  have HVn := hid hvn
  have HZn := hid hzn
  have HGa := hid hga
  have HK9 := hid k9
  have HZ9 := hid z9
  have HV9 := hid v9
  clear hkn hvn hzn hga k9 v9 z9
  obtain ⟨N0, hN0⟩ : ∃ N0, N0 = w.heap.size := ⟨_, rfl⟩
  obtain ⟨N1, hN1⟩ : ∃ N1, N1 = N0 + 1 := ⟨_, rfl⟩
  obtain ⟨w2, hw2⟩ : ∃ w2, w2 = (w.alloc (.cells #[.bool leaf, .slice ka kn kc, .slice ga vn g.cap, .slice ia zn ic] 26)).alloc NZ := ⟨_, rfl⟩
  have HA2 := hid (show Adds w w2 by rw [hw2]; exact ((Touch.refl _ w).alloc _).alloc _)
  have HB0 := hid (show w2.heap[N0]? = some (.cells #[.bool leaf, .slice ka kn kc, .slice ga vn g.cap, .slice ia zn ic] 26) by rw [hw2, hN0]; exact box_adds (heap_alloc_new w _) ((Touch.refl _ _).alloc _))
  have HB1 := hid (show w2.heap[N1]? = some NZ by rw [hw2, hN1, hN0, ← show (w.alloc (.cells #[.bool leaf, .slice ka kn kc, .slice ga vn g.cap, .slice ia zn ic] 26)).heap.size = w.heap.size + 1 by simp]; exact heap_alloc_new _ _)
  have HL := hid (show w.heap.size ≤ N1 by omega)
  obtain ⟨gc, hgc⟩ : ∃ c, c = g.cap := ⟨_, rfl⟩
  rw [← hgc] at HB0
  have HGc := hid hgc
  go_enter Try.func10, Try.ntmps10
  go_upto_region 1 with fail
  rw [← hw2, ← hN0, ← hN1]
  rw [← hgc]
  clear hw2 hN0 hN1 hgc
  go_cut [3] (fun p wx => ∃ N5 a5 c5 a9 c9, p = .pointer (some ⟨N5, 0, none⟩) ∧ Hid (Pc w2 wx N5 leaf ⟨leaf, a5, c5, ks, ⟨none, 0, []⟩, a9, c9, zs⟩))
  case first =>
    obtain ⟨x0, x1, _, x3⟩ := box_cells HB0.out
    have X0 := hid x0
    have X1 := hid x1
    have X3 := hid x3
    clear x0 x1 x3
    refine Pe_begin (S := fun W : World => Adds w2 W) (X := 12) (by kernel_rfl) ?_
    have hS : (fun W : World => Adds w2 W) w2.drew := adds_dr w2
    refine Pe_put (i := 0) 6 (v := .pointer (some ⟨N0, 0, none⟩)) rfl rfl (by kernel_rfl) (by kernel_rfl) (by kernel_rfl) (by kernel_rfl) (fun _ _ _ h => h) (Or.inl ⟨by rfl, fun w' hw' => ?_⟩) hS ?_
    · go_simp
    simp only [Act.put, List.setIfInBounds_toArray, List.set_cons_zero, List.set_cons_succ]
    refine Pe_put (i := 1) 7 (v := .bool leaf) rfl rfl (by kernel_rfl) (by kernel_rfl) (by kernel_rfl) (by kernel_rfl) (fun _ _ _ h => h) (Or.inl ⟨by rfl, fun w' hw' => ?_⟩) hS ?_
    · (have c := below_adds hw' X0.out; clear hw'; go_simp)
    simp only [Act.put, List.setIfInBounds_toArray, List.set_cons_zero, List.set_cons_succ]
    refine Pe_put (i := 3) 9 (v := .pointer (some ⟨N0, 1, none⟩)) rfl rfl (by kernel_rfl) (by kernel_rfl) (by kernel_rfl) (by kernel_rfl) (fun _ _ _ h => h) (Or.inl ⟨by rfl, fun w' hw' => ?_⟩) hS ?_
    · go_simp
    simp only [Act.put, List.setIfInBounds_toArray, List.set_cons_zero, List.set_cons_succ]
    refine Pe_put (i := 4) 10 (v := .slice ka kn kc) rfl rfl (by kernel_rfl) (by kernel_rfl) (by kernel_rfl) (by kernel_rfl) (fun _ _ _ h => h) (Or.inl ⟨by rfl, fun w' hw' => ?_⟩) hS ?_
    · (have c := below_adds hw' X1.out; clear hw'; go_simp)
    simp only [Act.put, List.setIfInBounds_toArray, List.set_cons_zero, List.set_cons_succ]
    refine Pe_put (i := 7) 13 (v := .pointer (some ⟨N0, 3, none⟩)) rfl rfl (by kernel_rfl) (by kernel_rfl) (by kernel_rfl) (by kernel_rfl) (fun _ _ _ h => h) (Or.inl ⟨by rfl, fun w' hw' => ?_⟩) hS ?_
    · go_simp
    simp only [Act.put, List.setIfInBounds_toArray, List.set_cons_zero, List.set_cons_succ]
    refine Pe_put (i := 8) 14 (v := .slice ia zn ic) rfl rfl (by kernel_rfl) (by kernel_rfl) (by kernel_rfl) (by kernel_rfl) (fun _ _ _ h => h) (Or.inl ⟨by rfl, fun w' hw' => ?_⟩) hS ?_
    · (have c := below_adds hw' X3.out; clear hw'; go_simp)
    simp only [Act.put, List.setIfInBounds_toArray, List.set_cons_zero, List.set_cons_succ]
    clear X0 X1 X3
    obtain ⟨W0, hW0⟩ : ∃ W, W = w2.drew := ⟨_, rfl⟩
    rw [← hW0] at hS ⊢
    clear hW0
    refine Pe_all (rs := [2, 6, 11]) (by kernel_rfl) (by simp) (fun jj hj => ?_)
    simp only [List.mem_cons, List.not_mem_nil, or_false] at hj
    rcases hj with rfl | rfl | rfl
    · refine EO_value 8 (v := .slice (some ⟨W0.heap.size, 0, none⟩) 0 0) (w' := W0.alloc (.cells #[] 9)) rfl rfl (by rfl) (by go_simp) (Touch.alloc hS _) ?_
      simp only [Act.put, List.setIfInBounds_toArray, List.set_cons_zero, List.set_cons_succ]
      obtain ⟨g2, hg2⟩ : ∃ g, g = W0.heap.size := ⟨_, rfl⟩
      obtain ⟨W1, hW1⟩ : ∃ W, W = W0.alloc (.cells #[] 9) := ⟨_, rfl⟩
      have hA : Adds W0 W1 := by rw [hW1]; exact (Touch.refl _ _).alloc _
      have F2 := hid (show W1.heap[g2]? = some (.cells #[] 9) by rw [hW1, hg2]; exact heap_alloc_new _ _)
      have HG2 := hid (show w2.heap.size ≤ g2 by rw [hg2]; exact hS.size)
      rw [← hg2, ← hW1]
      replace hS : (fun W : World => Adds w2 W) W1 := Touch.trans hS hA
      clear hA hg2 hW1
      refine Pe_all (rs := [5, 6, 11]) (by kernel_rfl) (by simp) (fun jj hj => ?_)
      simp only [List.mem_cons, List.not_mem_nil, or_false] at hj
      rcases hj with rfl | rfl | rfl
      · obtain ⟨i0, hi, hz0, hz1, hz2⟩ := infoES
        refine EO_do (some 11) rfl rfl rfl (fun K' hK => ?_)
        refine wp_append_lit 22 9 i0 (.string ⟨#[]⟩) 16 Try.underlying22 hi hz0 hz1 hz2 rfl (.tmp 8) (.tmp 10) rfl w2.heap.size g2 HG2.out F2.out rfl ka kn kc (Ss ks) rfl (show (Ss ks).length = kn by rw [len_Ss, HKn.out]) (HQ.out.keys.adds (HA2.out.trans hS)) HQ.out.kn (one_Ss ks) HK9.out (by decide) ?_
        intro a5 c5 W2 r1 hA
        refine hK _ _ (fun _ => Touch.trans hS hA) ?_
        simp only [Act.put, List.setIfInBounds_toArray, List.set_cons_zero, List.set_cons_succ]
        have F5 := hid r1
        replace hS : (fun W : World => Adds w2 W) W2 := Touch.trans hS hA
        replace F2 := hid (box_adds F2.out hA)
        clear hA r1 hi hz0 hz1 hz2
        refine Pe_all (rs := [6, 11]) (by kernel_rfl) (by simp) (fun jj hj => ?_)
        simp only [List.mem_cons, List.not_mem_nil, or_false] at hj
        rcases hj with rfl | rfl
        · refine EO_value 12 (v := .slice (some ⟨W2.heap.size, 0, none⟩) 0 0) (w' := W2.alloc (.cells #[] 3)) rfl rfl (by rfl) (by go_simp) (Touch.alloc hS _) ?_
          simp only [Act.put, List.setIfInBounds_toArray, List.set_cons_zero, List.set_cons_succ]
          obtain ⟨g6, hg6⟩ : ∃ g, g = W2.heap.size := ⟨_, rfl⟩
          obtain ⟨W3, hW3⟩ : ∃ W, W = W2.alloc (.cells #[] 3) := ⟨_, rfl⟩
          have hA : Adds W2 W3 := by rw [hW3]; exact (Touch.refl _ _).alloc _
          have F6 := hid (show W3.heap[g6]? = some (.cells #[] 3) by rw [hW3, hg6]; exact heap_alloc_new _ _)
          have HG6 := hid (show w2.heap.size ≤ g6 by rw [hg6]; exact hS.size)
          rw [← hg6, ← hW3]
          replace hS : (fun W : World => Adds w2 W) W3 := Touch.trans hS hA
          replace F2 := hid (box_adds F2.out hA)
          replace F5 := hid (row_touch F5.out hA (fun _ _ => id))
          clear hA hg6 hW3
          refine Pe_all (rs := [9, 11]) (by kernel_rfl) (by simp) (fun jj hj => ?_)
          simp only [List.mem_cons, List.not_mem_nil, or_false] at hj
          rcases hj with rfl | rfl
          · obtain ⟨i0, hi, hz0, hz1, hz2⟩ := infoEI
            refine EO_do (some 15) rfl rfl rfl (fun K' hK => ?_)
            refine wp_append_lit 24 3 i0 (.int .i64 0) 8 Try.underlying24 hi hz0 hz1 hz2 rfl (.tmp 12) (.tmp 14) rfl w2.heap.size g6 HG6.out F6.out rfl ia zn ic (Is zs) rfl (show (Is zs).length = zn by rw [len_Is, HZn.out]) (HQ.out.kids.adds (HA2.out.trans hS)) HQ.out.inn (one_Is zs) HZ9.out (by decide) ?_
            intro a9 c9 W4 r1 hA
            refine hK _ _ (fun _ => Touch.trans hS hA) ?_
            simp only [Act.put, List.setIfInBounds_toArray, List.set_cons_zero, List.set_cons_succ]
            have F9 := hid r1
            replace hS : (fun W : World => Adds w2 W) W4 := Touch.trans hS hA
            replace F2 := hid (box_adds F2.out hA)
            replace F5 := hid (row_touch F5.out hA (fun _ _ => id))
            replace F6 := hid (box_adds F6.out hA)
            clear hA r1 hi hz0 hz1 hz2
            refine Pe_put (i := 10) 16 (v := .agg #[.bool leaf, .slice a5 kn c5, .slice none 0 0, .slice a9 zn c9]) rfl rfl (by kernel_rfl) (by kernel_rfl) (by kernel_rfl) (by kernel_rfl) (fun _ _ _ h => h) (Or.inl ⟨by rfl, fun w' hw' => ?_⟩) hS ?_
            · go_simp
            simp only [Act.put, List.setIfInBounds_toArray, List.set_cons_zero, List.set_cons_succ]
            refine Pe_all (rs := [11]) (by kernel_rfl) (by simp) (fun jj hj => ?_)
            obtain rfl := List.mem_singleton.1 hj
            refine EO_value 3 (v := .pointer (some ⟨W4.heap.size, 0, none⟩)) (w' := W4.alloc NZ) rfl rfl (by rfl) (by go_simp) (Touch.alloc hS _) ?_
            simp only [Act.put, List.setIfInBounds_toArray, List.set_cons_zero, List.set_cons_succ]
            obtain ⟨g11, hg11⟩ : ∃ g, g = W4.heap.size := ⟨_, rfl⟩
            obtain ⟨W5, hW5⟩ : ∃ W, W = W4.alloc NZ := ⟨_, rfl⟩
            have hA : Adds W4 W5 := by rw [hW5]; exact (Touch.refl _ _).alloc _
            have F11 := hid (show W5.heap[g11]? = some NZ by rw [hW5, hg11]; exact heap_alloc_new _ _)
            have HG11 := hid (show w2.heap.size ≤ g11 by rw [hg11]; exact hS.size)
            rw [← hg11, ← hW5]
            replace hS : (fun W : World => Adds w2 W) W5 := Touch.trans hS hA
            replace F2 := hid (box_adds F2.out hA)
            replace F5 := hid (row_touch F5.out hA (fun _ _ => id))
            replace F6 := hid (box_adds F6.out hA)
            replace F9 := hid (row_touch F9.out hA (fun _ _ => id))
            clear hA hg11 hW5
            refine Pe_do (i := 12) none (by kernel_rfl) rfl rfl rfl (fun K' hK => ?_)
            refine Go.wp_store_row 28 _ _ rfl g11 #[.bool leaf, .slice a5 kn c5, .slice none 0 0, .slice a9 zn c9] rfl rfl 28 _ F11.out (info4 _ _ _ _) rfl (one4 _ _ _ _ _ _ _ _ _ _) ?_
            refine hK _ _ (fun h => absurd rfl h) (Pe_done (by kernel_rfl) ?_ _)
            have HEnd := hid (pc_made (leaf := leaf) (Touch.refl _ w2) hS HG11.out F11.out F5.out F9.out HKn.out HZn.out)
            clear hS
            simp only [Act.put]
            go_wp2
            go_meet
            case rel => exact ⟨g11, a5, c5, a9, c9, rfl, HEnd⟩
          · refine EO_value 3 (v := .pointer (some ⟨W3.heap.size, 0, none⟩)) (w' := W3.alloc NZ) rfl rfl (by rfl) (by go_simp) (Touch.alloc hS _) ?_
            simp only [Act.put, List.setIfInBounds_toArray, List.set_cons_zero, List.set_cons_succ]
            obtain ⟨g11, hg11⟩ : ∃ g, g = W3.heap.size := ⟨_, rfl⟩
            obtain ⟨W4, hW4⟩ : ∃ W, W = W3.alloc NZ := ⟨_, rfl⟩
            have hA : Adds W3 W4 := by rw [hW4]; exact (Touch.refl _ _).alloc _
            have F11 := hid (show W4.heap[g11]? = some NZ by rw [hW4, hg11]; exact heap_alloc_new _ _)
            have HG11 := hid (show w2.heap.size ≤ g11 by rw [hg11]; exact hS.size)
            rw [← hg11, ← hW4]
            replace hS : (fun W : World => Adds w2 W) W4 := Touch.trans hS hA
            replace F2 := hid (box_adds F2.out hA)
            replace F5 := hid (row_touch F5.out hA (fun _ _ => id))
            replace F6 := hid (box_adds F6.out hA)
            clear hA hg11 hW4
            refine Pe_all (rs := [9]) (by kernel_rfl) (by simp) (fun jj hj => ?_)
            obtain rfl := List.mem_singleton.1 hj
            obtain ⟨i0, hi, hz0, hz1, hz2⟩ := infoEI
            refine EO_do (some 15) rfl rfl rfl (fun K' hK => ?_)
            refine wp_append_lit 24 3 i0 (.int .i64 0) 8 Try.underlying24 hi hz0 hz1 hz2 rfl (.tmp 12) (.tmp 14) rfl w2.heap.size g6 HG6.out F6.out rfl ia zn ic (Is zs) rfl (show (Is zs).length = zn by rw [len_Is, HZn.out]) (HQ.out.kids.adds (HA2.out.trans hS)) HQ.out.inn (one_Is zs) HZ9.out (by decide) ?_
            intro a9 c9 W5 r1 hA
            refine hK _ _ (fun _ => Touch.trans hS hA) ?_
            simp only [Act.put, List.setIfInBounds_toArray, List.set_cons_zero, List.set_cons_succ]
            have F9 := hid r1
            replace hS : (fun W : World => Adds w2 W) W5 := Touch.trans hS hA
            replace F2 := hid (box_adds F2.out hA)
            replace F5 := hid (row_touch F5.out hA (fun _ _ => id))
            replace F6 := hid (box_adds F6.out hA)
            replace F11 := hid (box_adds F11.out hA)
            clear hA r1 hi hz0 hz1 hz2
            refine Pe_put (i := 10) 16 (v := .agg #[.bool leaf, .slice a5 kn c5, .slice none 0 0, .slice a9 zn c9]) rfl rfl (by kernel_rfl) (by kernel_rfl) (by kernel_rfl) (by kernel_rfl) (fun _ _ _ h => h) (Or.inl ⟨by rfl, fun w' hw' => ?_⟩) hS ?_
            · go_simp
            simp only [Act.put, List.setIfInBounds_toArray, List.set_cons_zero, List.set_cons_succ]
            refine Pe_do (i := 12) none (by kernel_rfl) rfl rfl rfl (fun K' hK => ?_)
            refine Go.wp_store_row 28 _ _ rfl g11 #[.bool leaf, .slice a5 kn c5, .slice none 0 0, .slice a9 zn c9] rfl rfl 28 _ F11.out (info4 _ _ _ _) rfl (one4 _ _ _ _ _ _ _ _ _ _) ?_
            refine hK _ _ (fun h => absurd rfl h) (Pe_done (by kernel_rfl) ?_ _)
            have HEnd := hid (pc_made (leaf := leaf) (Touch.refl _ w2) hS HG11.out F11.out F5.out F9.out HKn.out HZn.out)
            clear hS
            simp only [Act.put]
            go_wp2
            go_meet
            case rel => exact ⟨g11, a5, c5, a9, c9, rfl, HEnd⟩
        · refine EO_value 3 (v := .pointer (some ⟨W2.heap.size, 0, none⟩)) (w' := W2.alloc NZ) rfl rfl (by rfl) (by go_simp) (Touch.alloc hS _) ?_
          simp only [Act.put, List.setIfInBounds_toArray, List.set_cons_zero, List.set_cons_succ]
          obtain ⟨g11, hg11⟩ : ∃ g, g = W2.heap.size := ⟨_, rfl⟩
          obtain ⟨W3, hW3⟩ : ∃ W, W = W2.alloc NZ := ⟨_, rfl⟩
          have hA : Adds W2 W3 := by rw [hW3]; exact (Touch.refl _ _).alloc _
          have F11 := hid (show W3.heap[g11]? = some NZ by rw [hW3, hg11]; exact heap_alloc_new _ _)
          have HG11 := hid (show w2.heap.size ≤ g11 by rw [hg11]; exact hS.size)
          rw [← hg11, ← hW3]
          replace hS : (fun W : World => Adds w2 W) W3 := Touch.trans hS hA
          replace F2 := hid (box_adds F2.out hA)
          replace F5 := hid (row_touch F5.out hA (fun _ _ => id))
          clear hA hg11 hW3
          refine Pe_all (rs := [6]) (by kernel_rfl) (by simp) (fun jj hj => ?_)
          obtain rfl := List.mem_singleton.1 hj
          refine EO_value 12 (v := .slice (some ⟨W3.heap.size, 0, none⟩) 0 0) (w' := W3.alloc (.cells #[] 3)) rfl rfl (by rfl) (by go_simp) (Touch.alloc hS _) ?_
          simp only [Act.put, List.setIfInBounds_toArray, List.set_cons_zero, List.set_cons_succ]
          obtain ⟨g6, hg6⟩ : ∃ g, g = W3.heap.size := ⟨_, rfl⟩
          obtain ⟨W4, hW4⟩ : ∃ W, W = W3.alloc (.cells #[] 3) := ⟨_, rfl⟩
          have hA : Adds W3 W4 := by rw [hW4]; exact (Touch.refl _ _).alloc _
          have F6 := hid (show W4.heap[g6]? = some (.cells #[] 3) by rw [hW4, hg6]; exact heap_alloc_new _ _)
          have HG6 := hid (show w2.heap.size ≤ g6 by rw [hg6]; exact hS.size)
          rw [← hg6, ← hW4]
          replace hS : (fun W : World => Adds w2 W) W4 := Touch.trans hS hA
          replace F2 := hid (box_adds F2.out hA)
          replace F5 := hid (row_touch F5.out hA (fun _ _ => id))
          replace F11 := hid (box_adds F11.out hA)
          clear hA hg6 hW4
          refine Pe_all (rs := [9]) (by kernel_rfl) (by simp) (fun jj hj => ?_)
          obtain rfl := List.mem_singleton.1 hj
          obtain ⟨i0, hi, hz0, hz1, hz2⟩ := infoEI
          refine EO_do (some 15) rfl rfl rfl (fun K' hK => ?_)
          refine wp_append_lit 24 3 i0 (.int .i64 0) 8 Try.underlying24 hi hz0 hz1 hz2 rfl (.tmp 12) (.tmp 14) rfl w2.heap.size g6 HG6.out F6.out rfl ia zn ic (Is zs) rfl (show (Is zs).length = zn by rw [len_Is, HZn.out]) (HQ.out.kids.adds (HA2.out.trans hS)) HQ.out.inn (one_Is zs) HZ9.out (by decide) ?_
          intro a9 c9 W5 r1 hA
          refine hK _ _ (fun _ => Touch.trans hS hA) ?_
          simp only [Act.put, List.setIfInBounds_toArray, List.set_cons_zero, List.set_cons_succ]
          have F9 := hid r1
          replace hS : (fun W : World => Adds w2 W) W5 := Touch.trans hS hA
          replace F2 := hid (box_adds F2.out hA)
          replace F5 := hid (row_touch F5.out hA (fun _ _ => id))
          replace F11 := hid (box_adds F11.out hA)
          replace F6 := hid (box_adds F6.out hA)
          clear hA r1 hi hz0 hz1 hz2
          refine Pe_put (i := 10) 16 (v := .agg #[.bool leaf, .slice a5 kn c5, .slice none 0 0, .slice a9 zn c9]) rfl rfl (by kernel_rfl) (by kernel_rfl) (by kernel_rfl) (by kernel_rfl) (fun _ _ _ h => h) (Or.inl ⟨by rfl, fun w' hw' => ?_⟩) hS ?_
          · go_simp
          simp only [Act.put, List.setIfInBounds_toArray, List.set_cons_zero, List.set_cons_succ]
          refine Pe_do (i := 12) none (by kernel_rfl) rfl rfl rfl (fun K' hK => ?_)
          refine Go.wp_store_row 28 _ _ rfl g11 #[.bool leaf, .slice a5 kn c5, .slice none 0 0, .slice a9 zn c9] rfl rfl 28 _ F11.out (info4 _ _ _ _) rfl (one4 _ _ _ _ _ _ _ _ _ _) ?_
          refine hK _ _ (fun h => absurd rfl h) (Pe_done (by kernel_rfl) ?_ _)
          have HEnd := hid (pc_made (leaf := leaf) (Touch.refl _ w2) hS HG11.out F11.out F5.out F9.out HKn.out HZn.out)
          clear hS
          simp only [Act.put]
          go_wp2
          go_meet
          case rel => exact ⟨g11, a5, c5, a9, c9, rfl, HEnd⟩
      · refine EO_value 12 (v := .slice (some ⟨W1.heap.size, 0, none⟩) 0 0) (w' := W1.alloc (.cells #[] 3)) rfl rfl (by rfl) (by go_simp) (Touch.alloc hS _) ?_
        simp only [Act.put, List.setIfInBounds_toArray, List.set_cons_zero, List.set_cons_succ]
        obtain ⟨g6, hg6⟩ : ∃ g, g = W1.heap.size := ⟨_, rfl⟩
        obtain ⟨W2, hW2⟩ : ∃ W, W = W1.alloc (.cells #[] 3) := ⟨_, rfl⟩
        have hA : Adds W1 W2 := by rw [hW2]; exact (Touch.refl _ _).alloc _
        have F6 := hid (show W2.heap[g6]? = some (.cells #[] 3) by rw [hW2, hg6]; exact heap_alloc_new _ _)
        have HG6 := hid (show w2.heap.size ≤ g6 by rw [hg6]; exact hS.size)
        rw [← hg6, ← hW2]
        replace hS : (fun W : World => Adds w2 W) W2 := Touch.trans hS hA
        replace F2 := hid (box_adds F2.out hA)
        clear hA hg6 hW2
        refine Pe_all (rs := [5, 11]) (by kernel_rfl) (by simp) (fun jj hj => ?_)
        simp only [List.mem_cons, List.not_mem_nil, or_false] at hj
        rcases hj with rfl | rfl
        · obtain ⟨i0, hi, hz0, hz1, hz2⟩ := infoES
          refine EO_do (some 11) rfl rfl rfl (fun K' hK => ?_)
          refine wp_append_lit 22 9 i0 (.string ⟨#[]⟩) 16 Try.underlying22 hi hz0 hz1 hz2 rfl (.tmp 8) (.tmp 10) rfl w2.heap.size g2 HG2.out F2.out rfl ka kn kc (Ss ks) rfl (show (Ss ks).length = kn by rw [len_Ss, HKn.out]) (HQ.out.keys.adds (HA2.out.trans hS)) HQ.out.kn (one_Ss ks) HK9.out (by decide) ?_
          intro a5 c5 W3 r1 hA
          refine hK _ _ (fun _ => Touch.trans hS hA) ?_
          simp only [Act.put, List.setIfInBounds_toArray, List.set_cons_zero, List.set_cons_succ]
          have F5 := hid r1
          replace hS : (fun W : World => Adds w2 W) W3 := Touch.trans hS hA
          replace F2 := hid (box_adds F2.out hA)
          replace F6 := hid (box_adds F6.out hA)
          clear hA r1 hi hz0 hz1 hz2
          refine Pe_all (rs := [9, 11]) (by kernel_rfl) (by simp) (fun jj hj => ?_)
          simp only [List.mem_cons, List.not_mem_nil, or_false] at hj
          rcases hj with rfl | rfl
          · obtain ⟨i0, hi, hz0, hz1, hz2⟩ := infoEI
            refine EO_do (some 15) rfl rfl rfl (fun K' hK => ?_)
            refine wp_append_lit 24 3 i0 (.int .i64 0) 8 Try.underlying24 hi hz0 hz1 hz2 rfl (.tmp 12) (.tmp 14) rfl w2.heap.size g6 HG6.out F6.out rfl ia zn ic (Is zs) rfl (show (Is zs).length = zn by rw [len_Is, HZn.out]) (HQ.out.kids.adds (HA2.out.trans hS)) HQ.out.inn (one_Is zs) HZ9.out (by decide) ?_
            intro a9 c9 W4 r1 hA
            refine hK _ _ (fun _ => Touch.trans hS hA) ?_
            simp only [Act.put, List.setIfInBounds_toArray, List.set_cons_zero, List.set_cons_succ]
            have F9 := hid r1
            replace hS : (fun W : World => Adds w2 W) W4 := Touch.trans hS hA
            replace F2 := hid (box_adds F2.out hA)
            replace F6 := hid (box_adds F6.out hA)
            replace F5 := hid (row_touch F5.out hA (fun _ _ => id))
            clear hA r1 hi hz0 hz1 hz2
            refine Pe_put (i := 10) 16 (v := .agg #[.bool leaf, .slice a5 kn c5, .slice none 0 0, .slice a9 zn c9]) rfl rfl (by kernel_rfl) (by kernel_rfl) (by kernel_rfl) (by kernel_rfl) (fun _ _ _ h => h) (Or.inl ⟨by rfl, fun w' hw' => ?_⟩) hS ?_
            · go_simp
            simp only [Act.put, List.setIfInBounds_toArray, List.set_cons_zero, List.set_cons_succ]
            refine Pe_all (rs := [11]) (by kernel_rfl) (by simp) (fun jj hj => ?_)
            obtain rfl := List.mem_singleton.1 hj
            refine EO_value 3 (v := .pointer (some ⟨W4.heap.size, 0, none⟩)) (w' := W4.alloc NZ) rfl rfl (by rfl) (by go_simp) (Touch.alloc hS _) ?_
            simp only [Act.put, List.setIfInBounds_toArray, List.set_cons_zero, List.set_cons_succ]
            obtain ⟨g11, hg11⟩ : ∃ g, g = W4.heap.size := ⟨_, rfl⟩
            obtain ⟨W5, hW5⟩ : ∃ W, W = W4.alloc NZ := ⟨_, rfl⟩
            have hA : Adds W4 W5 := by rw [hW5]; exact (Touch.refl _ _).alloc _
            have F11 := hid (show W5.heap[g11]? = some NZ by rw [hW5, hg11]; exact heap_alloc_new _ _)
            have HG11 := hid (show w2.heap.size ≤ g11 by rw [hg11]; exact hS.size)
            rw [← hg11, ← hW5]
            replace hS : (fun W : World => Adds w2 W) W5 := Touch.trans hS hA
            replace F2 := hid (box_adds F2.out hA)
            replace F6 := hid (box_adds F6.out hA)
            replace F5 := hid (row_touch F5.out hA (fun _ _ => id))
            replace F9 := hid (row_touch F9.out hA (fun _ _ => id))
            clear hA hg11 hW5
            refine Pe_do (i := 12) none (by kernel_rfl) rfl rfl rfl (fun K' hK => ?_)
            refine Go.wp_store_row 28 _ _ rfl g11 #[.bool leaf, .slice a5 kn c5, .slice none 0 0, .slice a9 zn c9] rfl rfl 28 _ F11.out (info4 _ _ _ _) rfl (one4 _ _ _ _ _ _ _ _ _ _) ?_
            refine hK _ _ (fun h => absurd rfl h) (Pe_done (by kernel_rfl) ?_ _)
            have HEnd := hid (pc_made (leaf := leaf) (Touch.refl _ w2) hS HG11.out F11.out F5.out F9.out HKn.out HZn.out)
            clear hS
            simp only [Act.put]
            go_wp2
            go_meet
            case rel => exact ⟨g11, a5, c5, a9, c9, rfl, HEnd⟩
          · refine EO_value 3 (v := .pointer (some ⟨W3.heap.size, 0, none⟩)) (w' := W3.alloc NZ) rfl rfl (by rfl) (by go_simp) (Touch.alloc hS _) ?_
            simp only [Act.put, List.setIfInBounds_toArray, List.set_cons_zero, List.set_cons_succ]
            obtain ⟨g11, hg11⟩ : ∃ g, g = W3.heap.size := ⟨_, rfl⟩
            obtain ⟨W4, hW4⟩ : ∃ W, W = W3.alloc NZ := ⟨_, rfl⟩
            have hA : Adds W3 W4 := by rw [hW4]; exact (Touch.refl _ _).alloc _
            have F11 := hid (show W4.heap[g11]? = some NZ by rw [hW4, hg11]; exact heap_alloc_new _ _)
            have HG11 := hid (show w2.heap.size ≤ g11 by rw [hg11]; exact hS.size)
            rw [← hg11, ← hW4]
            replace hS : (fun W : World => Adds w2 W) W4 := Touch.trans hS hA
            replace F2 := hid (box_adds F2.out hA)
            replace F6 := hid (box_adds F6.out hA)
            replace F5 := hid (row_touch F5.out hA (fun _ _ => id))
            clear hA hg11 hW4
            refine Pe_all (rs := [9]) (by kernel_rfl) (by simp) (fun jj hj => ?_)
            obtain rfl := List.mem_singleton.1 hj
            obtain ⟨i0, hi, hz0, hz1, hz2⟩ := infoEI
            refine EO_do (some 15) rfl rfl rfl (fun K' hK => ?_)
            refine wp_append_lit 24 3 i0 (.int .i64 0) 8 Try.underlying24 hi hz0 hz1 hz2 rfl (.tmp 12) (.tmp 14) rfl w2.heap.size g6 HG6.out F6.out rfl ia zn ic (Is zs) rfl (show (Is zs).length = zn by rw [len_Is, HZn.out]) (HQ.out.kids.adds (HA2.out.trans hS)) HQ.out.inn (one_Is zs) HZ9.out (by decide) ?_
            intro a9 c9 W5 r1 hA
            refine hK _ _ (fun _ => Touch.trans hS hA) ?_
            simp only [Act.put, List.setIfInBounds_toArray, List.set_cons_zero, List.set_cons_succ]
            have F9 := hid r1
            replace hS : (fun W : World => Adds w2 W) W5 := Touch.trans hS hA
            replace F2 := hid (box_adds F2.out hA)
            replace F6 := hid (box_adds F6.out hA)
            replace F5 := hid (row_touch F5.out hA (fun _ _ => id))
            replace F11 := hid (box_adds F11.out hA)
            clear hA r1 hi hz0 hz1 hz2
            refine Pe_put (i := 10) 16 (v := .agg #[.bool leaf, .slice a5 kn c5, .slice none 0 0, .slice a9 zn c9]) rfl rfl (by kernel_rfl) (by kernel_rfl) (by kernel_rfl) (by kernel_rfl) (fun _ _ _ h => h) (Or.inl ⟨by rfl, fun w' hw' => ?_⟩) hS ?_
            · go_simp
            simp only [Act.put, List.setIfInBounds_toArray, List.set_cons_zero, List.set_cons_succ]
            refine Pe_do (i := 12) none (by kernel_rfl) rfl rfl rfl (fun K' hK => ?_)
            refine Go.wp_store_row 28 _ _ rfl g11 #[.bool leaf, .slice a5 kn c5, .slice none 0 0, .slice a9 zn c9] rfl rfl 28 _ F11.out (info4 _ _ _ _) rfl (one4 _ _ _ _ _ _ _ _ _ _) ?_
            refine hK _ _ (fun h => absurd rfl h) (Pe_done (by kernel_rfl) ?_ _)
            have HEnd := hid (pc_made (leaf := leaf) (Touch.refl _ w2) hS HG11.out F11.out F5.out F9.out HKn.out HZn.out)
            clear hS
            simp only [Act.put]
            go_wp2
            go_meet
            case rel => exact ⟨g11, a5, c5, a9, c9, rfl, HEnd⟩
        · refine EO_value 3 (v := .pointer (some ⟨W2.heap.size, 0, none⟩)) (w' := W2.alloc NZ) rfl rfl (by rfl) (by go_simp) (Touch.alloc hS _) ?_
          simp only [Act.put, List.setIfInBounds_toArray, List.set_cons_zero, List.set_cons_succ]
          obtain ⟨g11, hg11⟩ : ∃ g, g = W2.heap.size := ⟨_, rfl⟩
          obtain ⟨W3, hW3⟩ : ∃ W, W = W2.alloc NZ := ⟨_, rfl⟩
          have hA : Adds W2 W3 := by rw [hW3]; exact (Touch.refl _ _).alloc _
          have F11 := hid (show W3.heap[g11]? = some NZ by rw [hW3, hg11]; exact heap_alloc_new _ _)
          have HG11 := hid (show w2.heap.size ≤ g11 by rw [hg11]; exact hS.size)
          rw [← hg11, ← hW3]
          replace hS : (fun W : World => Adds w2 W) W3 := Touch.trans hS hA
          replace F2 := hid (box_adds F2.out hA)
          replace F6 := hid (box_adds F6.out hA)
          clear hA hg11 hW3
          refine Pe_all (rs := [5]) (by kernel_rfl) (by simp) (fun jj hj => ?_)
          obtain rfl := List.mem_singleton.1 hj
          obtain ⟨i0, hi, hz0, hz1, hz2⟩ := infoES
          refine EO_do (some 11) rfl rfl rfl (fun K' hK => ?_)
          refine wp_append_lit 22 9 i0 (.string ⟨#[]⟩) 16 Try.underlying22 hi hz0 hz1 hz2 rfl (.tmp 8) (.tmp 10) rfl w2.heap.size g2 HG2.out F2.out rfl ka kn kc (Ss ks) rfl (show (Ss ks).length = kn by rw [len_Ss, HKn.out]) (HQ.out.keys.adds (HA2.out.trans hS)) HQ.out.kn (one_Ss ks) HK9.out (by decide) ?_
          intro a5 c5 W4 r1 hA
          refine hK _ _ (fun _ => Touch.trans hS hA) ?_
          simp only [Act.put, List.setIfInBounds_toArray, List.set_cons_zero, List.set_cons_succ]
          have F5 := hid r1
          replace hS : (fun W : World => Adds w2 W) W4 := Touch.trans hS hA
          replace F2 := hid (box_adds F2.out hA)
          replace F6 := hid (box_adds F6.out hA)
          replace F11 := hid (box_adds F11.out hA)
          clear hA r1 hi hz0 hz1 hz2
          refine Pe_all (rs := [9]) (by kernel_rfl) (by simp) (fun jj hj => ?_)
          obtain rfl := List.mem_singleton.1 hj
          obtain ⟨i0, hi, hz0, hz1, hz2⟩ := infoEI
          refine EO_do (some 15) rfl rfl rfl (fun K' hK => ?_)
          refine wp_append_lit 24 3 i0 (.int .i64 0) 8 Try.underlying24 hi hz0 hz1 hz2 rfl (.tmp 12) (.tmp 14) rfl w2.heap.size g6 HG6.out F6.out rfl ia zn ic (Is zs) rfl (show (Is zs).length = zn by rw [len_Is, HZn.out]) (HQ.out.kids.adds (HA2.out.trans hS)) HQ.out.inn (one_Is zs) HZ9.out (by decide) ?_
          intro a9 c9 W5 r1 hA
          refine hK _ _ (fun _ => Touch.trans hS hA) ?_
          simp only [Act.put, List.setIfInBounds_toArray, List.set_cons_zero, List.set_cons_succ]
          have F9 := hid r1
          replace hS : (fun W : World => Adds w2 W) W5 := Touch.trans hS hA
          replace F2 := hid (box_adds F2.out hA)
          replace F6 := hid (box_adds F6.out hA)
          replace F11 := hid (box_adds F11.out hA)
          replace F5 := hid (row_touch F5.out hA (fun _ _ => id))
          clear hA r1 hi hz0 hz1 hz2
          refine Pe_put (i := 10) 16 (v := .agg #[.bool leaf, .slice a5 kn c5, .slice none 0 0, .slice a9 zn c9]) rfl rfl (by kernel_rfl) (by kernel_rfl) (by kernel_rfl) (by kernel_rfl) (fun _ _ _ h => h) (Or.inl ⟨by rfl, fun w' hw' => ?_⟩) hS ?_
          · go_simp
          simp only [Act.put, List.setIfInBounds_toArray, List.set_cons_zero, List.set_cons_succ]
          refine Pe_do (i := 12) none (by kernel_rfl) rfl rfl rfl (fun K' hK => ?_)
          refine Go.wp_store_row 28 _ _ rfl g11 #[.bool leaf, .slice a5 kn c5, .slice none 0 0, .slice a9 zn c9] rfl rfl 28 _ F11.out (info4 _ _ _ _) rfl (one4 _ _ _ _ _ _ _ _ _ _) ?_
          refine hK _ _ (fun h => absurd rfl h) (Pe_done (by kernel_rfl) ?_ _)
          have HEnd := hid (pc_made (leaf := leaf) (Touch.refl _ w2) hS HG11.out F11.out F5.out F9.out HKn.out HZn.out)
          clear hS
          simp only [Act.put]
          go_wp2
          go_meet
          case rel => exact ⟨g11, a5, c5, a9, c9, rfl, HEnd⟩
      · refine EO_value 3 (v := .pointer (some ⟨W1.heap.size, 0, none⟩)) (w' := W1.alloc NZ) rfl rfl (by rfl) (by go_simp) (Touch.alloc hS _) ?_
        simp only [Act.put, List.setIfInBounds_toArray, List.set_cons_zero, List.set_cons_succ]
        obtain ⟨g11, hg11⟩ : ∃ g, g = W1.heap.size := ⟨_, rfl⟩
        obtain ⟨W2, hW2⟩ : ∃ W, W = W1.alloc NZ := ⟨_, rfl⟩
        have hA : Adds W1 W2 := by rw [hW2]; exact (Touch.refl _ _).alloc _
        have F11 := hid (show W2.heap[g11]? = some NZ by rw [hW2, hg11]; exact heap_alloc_new _ _)
        have HG11 := hid (show w2.heap.size ≤ g11 by rw [hg11]; exact hS.size)
        rw [← hg11, ← hW2]
        replace hS : (fun W : World => Adds w2 W) W2 := Touch.trans hS hA
        replace F2 := hid (box_adds F2.out hA)
        clear hA hg11 hW2
        refine Pe_all (rs := [5, 6]) (by kernel_rfl) (by simp) (fun jj hj => ?_)
        simp only [List.mem_cons, List.not_mem_nil, or_false] at hj
        rcases hj with rfl | rfl
        · obtain ⟨i0, hi, hz0, hz1, hz2⟩ := infoES
          refine EO_do (some 11) rfl rfl rfl (fun K' hK => ?_)
          refine wp_append_lit 22 9 i0 (.string ⟨#[]⟩) 16 Try.underlying22 hi hz0 hz1 hz2 rfl (.tmp 8) (.tmp 10) rfl w2.heap.size g2 HG2.out F2.out rfl ka kn kc (Ss ks) rfl (show (Ss ks).length = kn by rw [len_Ss, HKn.out]) (HQ.out.keys.adds (HA2.out.trans hS)) HQ.out.kn (one_Ss ks) HK9.out (by decide) ?_
          intro a5 c5 W3 r1 hA
          refine hK _ _ (fun _ => Touch.trans hS hA) ?_
          simp only [Act.put, List.setIfInBounds_toArray, List.set_cons_zero, List.set_cons_succ]
          have F5 := hid r1
          replace hS : (fun W : World => Adds w2 W) W3 := Touch.trans hS hA
          replace F2 := hid (box_adds F2.out hA)
          replace F11 := hid (box_adds F11.out hA)
          clear hA r1 hi hz0 hz1 hz2
          refine Pe_all (rs := [6]) (by kernel_rfl) (by simp) (fun jj hj => ?_)
          obtain rfl := List.mem_singleton.1 hj
          refine EO_value 12 (v := .slice (some ⟨W3.heap.size, 0, none⟩) 0 0) (w' := W3.alloc (.cells #[] 3)) rfl rfl (by rfl) (by go_simp) (Touch.alloc hS _) ?_
          simp only [Act.put, List.setIfInBounds_toArray, List.set_cons_zero, List.set_cons_succ]
          obtain ⟨g6, hg6⟩ : ∃ g, g = W3.heap.size := ⟨_, rfl⟩
          obtain ⟨W4, hW4⟩ : ∃ W, W = W3.alloc (.cells #[] 3) := ⟨_, rfl⟩
          have hA : Adds W3 W4 := by rw [hW4]; exact (Touch.refl _ _).alloc _
          have F6 := hid (show W4.heap[g6]? = some (.cells #[] 3) by rw [hW4, hg6]; exact heap_alloc_new _ _)
          have HG6 := hid (show w2.heap.size ≤ g6 by rw [hg6]; exact hS.size)
          rw [← hg6, ← hW4]
          replace hS : (fun W : World => Adds w2 W) W4 := Touch.trans hS hA
          replace F2 := hid (box_adds F2.out hA)
          replace F11 := hid (box_adds F11.out hA)
          replace F5 := hid (row_touch F5.out hA (fun _ _ => id))
          clear hA hg6 hW4
          refine Pe_all (rs := [9]) (by kernel_rfl) (by simp) (fun jj hj => ?_)
          obtain rfl := List.mem_singleton.1 hj
          obtain ⟨i0, hi, hz0, hz1, hz2⟩ := infoEI
          refine EO_do (some 15) rfl rfl rfl (fun K' hK => ?_)
          refine wp_append_lit 24 3 i0 (.int .i64 0) 8 Try.underlying24 hi hz0 hz1 hz2 rfl (.tmp 12) (.tmp 14) rfl w2.heap.size g6 HG6.out F6.out rfl ia zn ic (Is zs) rfl (show (Is zs).length = zn by rw [len_Is, HZn.out]) (HQ.out.kids.adds (HA2.out.trans hS)) HQ.out.inn (one_Is zs) HZ9.out (by decide) ?_
          intro a9 c9 W5 r1 hA
          refine hK _ _ (fun _ => Touch.trans hS hA) ?_
          simp only [Act.put, List.setIfInBounds_toArray, List.set_cons_zero, List.set_cons_succ]
          have F9 := hid r1
          replace hS : (fun W : World => Adds w2 W) W5 := Touch.trans hS hA
          replace F2 := hid (box_adds F2.out hA)
          replace F11 := hid (box_adds F11.out hA)
          replace F5 := hid (row_touch F5.out hA (fun _ _ => id))
          replace F6 := hid (box_adds F6.out hA)
          clear hA r1 hi hz0 hz1 hz2
          refine Pe_put (i := 10) 16 (v := .agg #[.bool leaf, .slice a5 kn c5, .slice none 0 0, .slice a9 zn c9]) rfl rfl (by kernel_rfl) (by kernel_rfl) (by kernel_rfl) (by kernel_rfl) (fun _ _ _ h => h) (Or.inl ⟨by rfl, fun w' hw' => ?_⟩) hS ?_
          · go_simp
          simp only [Act.put, List.setIfInBounds_toArray, List.set_cons_zero, List.set_cons_succ]
          refine Pe_do (i := 12) none (by kernel_rfl) rfl rfl rfl (fun K' hK => ?_)
          refine Go.wp_store_row 28 _ _ rfl g11 #[.bool leaf, .slice a5 kn c5, .slice none 0 0, .slice a9 zn c9] rfl rfl 28 _ F11.out (info4 _ _ _ _) rfl (one4 _ _ _ _ _ _ _ _ _ _) ?_
          refine hK _ _ (fun h => absurd rfl h) (Pe_done (by kernel_rfl) ?_ _)
          have HEnd := hid (pc_made (leaf := leaf) (Touch.refl _ w2) hS HG11.out F11.out F5.out F9.out HKn.out HZn.out)
          clear hS
          simp only [Act.put]
          go_wp2
          go_meet
          case rel => exact ⟨g11, a5, c5, a9, c9, rfl, HEnd⟩
        · refine EO_value 12 (v := .slice (some ⟨W2.heap.size, 0, none⟩) 0 0) (w' := W2.alloc (.cells #[] 3)) rfl rfl (by rfl) (by go_simp) (Touch.alloc hS _) ?_
          simp only [Act.put, List.setIfInBounds_toArray, List.set_cons_zero, List.set_cons_succ]
          obtain ⟨g6, hg6⟩ : ∃ g, g = W2.heap.size := ⟨_, rfl⟩
          obtain ⟨W3, hW3⟩ : ∃ W, W = W2.alloc (.cells #[] 3) := ⟨_, rfl⟩
          have hA : Adds W2 W3 := by rw [hW3]; exact (Touch.refl _ _).alloc _
          have F6 := hid (show W3.heap[g6]? = some (.cells #[] 3) by rw [hW3, hg6]; exact heap_alloc_new _ _)
          have HG6 := hid (show w2.heap.size ≤ g6 by rw [hg6]; exact hS.size)
          rw [← hg6, ← hW3]
          replace hS : (fun W : World => Adds w2 W) W3 := Touch.trans hS hA
          replace F2 := hid (box_adds F2.out hA)
          replace F11 := hid (box_adds F11.out hA)
          clear hA hg6 hW3
          refine Pe_all (rs := [5]) (by kernel_rfl) (by simp) (fun jj hj => ?_)
          obtain rfl := List.mem_singleton.1 hj
          obtain ⟨i0, hi, hz0, hz1, hz2⟩ := infoES
          refine EO_do (some 11) rfl rfl rfl (fun K' hK => ?_)
          refine wp_append_lit 22 9 i0 (.string ⟨#[]⟩) 16 Try.underlying22 hi hz0 hz1 hz2 rfl (.tmp 8) (.tmp 10) rfl w2.heap.size g2 HG2.out F2.out rfl ka kn kc (Ss ks) rfl (show (Ss ks).length = kn by rw [len_Ss, HKn.out]) (HQ.out.keys.adds (HA2.out.trans hS)) HQ.out.kn (one_Ss ks) HK9.out (by decide) ?_
          intro a5 c5 W4 r1 hA
          refine hK _ _ (fun _ => Touch.trans hS hA) ?_
          simp only [Act.put, List.setIfInBounds_toArray, List.set_cons_zero, List.set_cons_succ]
          have F5 := hid r1
          replace hS : (fun W : World => Adds w2 W) W4 := Touch.trans hS hA
          replace F2 := hid (box_adds F2.out hA)
          replace F11 := hid (box_adds F11.out hA)
          replace F6 := hid (box_adds F6.out hA)
          clear hA r1 hi hz0 hz1 hz2
          refine Pe_all (rs := [9]) (by kernel_rfl) (by simp) (fun jj hj => ?_)
          obtain rfl := List.mem_singleton.1 hj
          obtain ⟨i0, hi, hz0, hz1, hz2⟩ := infoEI
          refine EO_do (some 15) rfl rfl rfl (fun K' hK => ?_)
          refine wp_append_lit 24 3 i0 (.int .i64 0) 8 Try.underlying24 hi hz0 hz1 hz2 rfl (.tmp 12) (.tmp 14) rfl w2.heap.size g6 HG6.out F6.out rfl ia zn ic (Is zs) rfl (show (Is zs).length = zn by rw [len_Is, HZn.out]) (HQ.out.kids.adds (HA2.out.trans hS)) HQ.out.inn (one_Is zs) HZ9.out (by decide) ?_
          intro a9 c9 W5 r1 hA
          refine hK _ _ (fun _ => Touch.trans hS hA) ?_
          simp only [Act.put, List.setIfInBounds_toArray, List.set_cons_zero, List.set_cons_succ]
          have F9 := hid r1
          replace hS : (fun W : World => Adds w2 W) W5 := Touch.trans hS hA
          replace F2 := hid (box_adds F2.out hA)
          replace F11 := hid (box_adds F11.out hA)
          replace F6 := hid (box_adds F6.out hA)
          replace F5 := hid (row_touch F5.out hA (fun _ _ => id))
          clear hA r1 hi hz0 hz1 hz2
          refine Pe_put (i := 10) 16 (v := .agg #[.bool leaf, .slice a5 kn c5, .slice none 0 0, .slice a9 zn c9]) rfl rfl (by kernel_rfl) (by kernel_rfl) (by kernel_rfl) (by kernel_rfl) (fun _ _ _ h => h) (Or.inl ⟨by rfl, fun w' hw' => ?_⟩) hS ?_
          · go_simp
          simp only [Act.put, List.setIfInBounds_toArray, List.set_cons_zero, List.set_cons_succ]
          refine Pe_do (i := 12) none (by kernel_rfl) rfl rfl rfl (fun K' hK => ?_)
          refine Go.wp_store_row 28 _ _ rfl g11 #[.bool leaf, .slice a5 kn c5, .slice none 0 0, .slice a9 zn c9] rfl rfl 28 _ F11.out (info4 _ _ _ _) rfl (one4 _ _ _ _ _ _ _ _ _ _) ?_
          refine hK _ _ (fun h => absurd rfl h) (Pe_done (by kernel_rfl) ?_ _)
          have HEnd := hid (pc_made (leaf := leaf) (Touch.refl _ w2) hS HG11.out F11.out F5.out F9.out HKn.out HZn.out)
          clear hS
          simp only [Act.put]
          go_wp2
          go_meet
          case rel => exact ⟨g11, a5, c5, a9, c9, rfl, HEnd⟩
    · refine EO_value 12 (v := .slice (some ⟨W0.heap.size, 0, none⟩) 0 0) (w' := W0.alloc (.cells #[] 3)) rfl rfl (by rfl) (by go_simp) (Touch.alloc hS _) ?_
      simp only [Act.put, List.setIfInBounds_toArray, List.set_cons_zero, List.set_cons_succ]
      obtain ⟨g6, hg6⟩ : ∃ g, g = W0.heap.size := ⟨_, rfl⟩
      obtain ⟨W1, hW1⟩ : ∃ W, W = W0.alloc (.cells #[] 3) := ⟨_, rfl⟩
      have hA : Adds W0 W1 := by rw [hW1]; exact (Touch.refl _ _).alloc _
      have F6 := hid (show W1.heap[g6]? = some (.cells #[] 3) by rw [hW1, hg6]; exact heap_alloc_new _ _)
      have HG6 := hid (show w2.heap.size ≤ g6 by rw [hg6]; exact hS.size)
      rw [← hg6, ← hW1]
      replace hS : (fun W : World => Adds w2 W) W1 := Touch.trans hS hA
      clear hA hg6 hW1
      refine Pe_all (rs := [2, 11]) (by kernel_rfl) (by simp) (fun jj hj => ?_)
      simp only [List.mem_cons, List.not_mem_nil, or_false] at hj
      rcases hj with rfl | rfl
      · refine EO_value 8 (v := .slice (some ⟨W1.heap.size, 0, none⟩) 0 0) (w' := W1.alloc (.cells #[] 9)) rfl rfl (by rfl) (by go_simp) (Touch.alloc hS _) ?_
        simp only [Act.put, List.setIfInBounds_toArray, List.set_cons_zero, List.set_cons_succ]
        obtain ⟨g2, hg2⟩ : ∃ g, g = W1.heap.size := ⟨_, rfl⟩
        obtain ⟨W2, hW2⟩ : ∃ W, W = W1.alloc (.cells #[] 9) := ⟨_, rfl⟩
        have hA : Adds W1 W2 := by rw [hW2]; exact (Touch.refl _ _).alloc _
        have F2 := hid (show W2.heap[g2]? = some (.cells #[] 9) by rw [hW2, hg2]; exact heap_alloc_new _ _)
        have HG2 := hid (show w2.heap.size ≤ g2 by rw [hg2]; exact hS.size)
        rw [← hg2, ← hW2]
        replace hS : (fun W : World => Adds w2 W) W2 := Touch.trans hS hA
        replace F6 := hid (box_adds F6.out hA)
        clear hA hg2 hW2
        refine Pe_all (rs := [5, 11]) (by kernel_rfl) (by simp) (fun jj hj => ?_)
        simp only [List.mem_cons, List.not_mem_nil, or_false] at hj
        rcases hj with rfl | rfl
        · obtain ⟨i0, hi, hz0, hz1, hz2⟩ := infoES
          refine EO_do (some 11) rfl rfl rfl (fun K' hK => ?_)
          refine wp_append_lit 22 9 i0 (.string ⟨#[]⟩) 16 Try.underlying22 hi hz0 hz1 hz2 rfl (.tmp 8) (.tmp 10) rfl w2.heap.size g2 HG2.out F2.out rfl ka kn kc (Ss ks) rfl (show (Ss ks).length = kn by rw [len_Ss, HKn.out]) (HQ.out.keys.adds (HA2.out.trans hS)) HQ.out.kn (one_Ss ks) HK9.out (by decide) ?_
          intro a5 c5 W3 r1 hA
          refine hK _ _ (fun _ => Touch.trans hS hA) ?_
          simp only [Act.put, List.setIfInBounds_toArray, List.set_cons_zero, List.set_cons_succ]
          have F5 := hid r1
          replace hS : (fun W : World => Adds w2 W) W3 := Touch.trans hS hA
          replace F6 := hid (box_adds F6.out hA)
          replace F2 := hid (box_adds F2.out hA)
          clear hA r1 hi hz0 hz1 hz2
          refine Pe_all (rs := [9, 11]) (by kernel_rfl) (by simp) (fun jj hj => ?_)
          simp only [List.mem_cons, List.not_mem_nil, or_false] at hj
          rcases hj with rfl | rfl
          · obtain ⟨i0, hi, hz0, hz1, hz2⟩ := infoEI
            refine EO_do (some 15) rfl rfl rfl (fun K' hK => ?_)
            refine wp_append_lit 24 3 i0 (.int .i64 0) 8 Try.underlying24 hi hz0 hz1 hz2 rfl (.tmp 12) (.tmp 14) rfl w2.heap.size g6 HG6.out F6.out rfl ia zn ic (Is zs) rfl (show (Is zs).length = zn by rw [len_Is, HZn.out]) (HQ.out.kids.adds (HA2.out.trans hS)) HQ.out.inn (one_Is zs) HZ9.out (by decide) ?_
            intro a9 c9 W4 r1 hA
            refine hK _ _ (fun _ => Touch.trans hS hA) ?_
            simp only [Act.put, List.setIfInBounds_toArray, List.set_cons_zero, List.set_cons_succ]
            have F9 := hid r1
            replace hS : (fun W : World => Adds w2 W) W4 := Touch.trans hS hA
            replace F6 := hid (box_adds F6.out hA)
            replace F2 := hid (box_adds F2.out hA)
            replace F5 := hid (row_touch F5.out hA (fun _ _ => id))
            clear hA r1 hi hz0 hz1 hz2
            refine Pe_put (i := 10) 16 (v := .agg #[.bool leaf, .slice a5 kn c5, .slice none 0 0, .slice a9 zn c9]) rfl rfl (by kernel_rfl) (by kernel_rfl) (by kernel_rfl) (by kernel_rfl) (fun _ _ _ h => h) (Or.inl ⟨by rfl, fun w' hw' => ?_⟩) hS ?_
            · go_simp
            simp only [Act.put, List.setIfInBounds_toArray, List.set_cons_zero, List.set_cons_succ]
            refine Pe_all (rs := [11]) (by kernel_rfl) (by simp) (fun jj hj => ?_)
            obtain rfl := List.mem_singleton.1 hj
            refine EO_value 3 (v := .pointer (some ⟨W4.heap.size, 0, none⟩)) (w' := W4.alloc NZ) rfl rfl (by rfl) (by go_simp) (Touch.alloc hS _) ?_
            simp only [Act.put, List.setIfInBounds_toArray, List.set_cons_zero, List.set_cons_succ]
            obtain ⟨g11, hg11⟩ : ∃ g, g = W4.heap.size := ⟨_, rfl⟩
            obtain ⟨W5, hW5⟩ : ∃ W, W = W4.alloc NZ := ⟨_, rfl⟩
            have hA : Adds W4 W5 := by rw [hW5]; exact (Touch.refl _ _).alloc _
            have F11 := hid (show W5.heap[g11]? = some NZ by rw [hW5, hg11]; exact heap_alloc_new _ _)
            have HG11 := hid (show w2.heap.size ≤ g11 by rw [hg11]; exact hS.size)
            rw [← hg11, ← hW5]
            replace hS : (fun W : World => Adds w2 W) W5 := Touch.trans hS hA
            replace F6 := hid (box_adds F6.out hA)
            replace F2 := hid (box_adds F2.out hA)
            replace F5 := hid (row_touch F5.out hA (fun _ _ => id))
            replace F9 := hid (row_touch F9.out hA (fun _ _ => id))
            clear hA hg11 hW5
            refine Pe_do (i := 12) none (by kernel_rfl) rfl rfl rfl (fun K' hK => ?_)
            refine Go.wp_store_row 28 _ _ rfl g11 #[.bool leaf, .slice a5 kn c5, .slice none 0 0, .slice a9 zn c9] rfl rfl 28 _ F11.out (info4 _ _ _ _) rfl (one4 _ _ _ _ _ _ _ _ _ _) ?_
            refine hK _ _ (fun h => absurd rfl h) (Pe_done (by kernel_rfl) ?_ _)
            have HEnd := hid (pc_made (leaf := leaf) (Touch.refl _ w2) hS HG11.out F11.out F5.out F9.out HKn.out HZn.out)
            clear hS
            simp only [Act.put]
            go_wp2
            go_meet
            case rel => exact ⟨g11, a5, c5, a9, c9, rfl, HEnd⟩
          · refine EO_value 3 (v := .pointer (some ⟨W3.heap.size, 0, none⟩)) (w' := W3.alloc NZ) rfl rfl (by rfl) (by go_simp) (Touch.alloc hS _) ?_
            simp only [Act.put, List.setIfInBounds_toArray, List.set_cons_zero, List.set_cons_succ]
            obtain ⟨g11, hg11⟩ : ∃ g, g = W3.heap.size := ⟨_, rfl⟩
            obtain ⟨W4, hW4⟩ : ∃ W, W = W3.alloc NZ := ⟨_, rfl⟩
            have hA : Adds W3 W4 := by rw [hW4]; exact (Touch.refl _ _).alloc _
            have F11 := hid (show W4.heap[g11]? = some NZ by rw [hW4, hg11]; exact heap_alloc_new _ _)
            have HG11 := hid (show w2.heap.size ≤ g11 by rw [hg11]; exact hS.size)
            rw [← hg11, ← hW4]
            replace hS : (fun W : World => Adds w2 W) W4 := Touch.trans hS hA
            replace F6 := hid (box_adds F6.out hA)
            replace F2 := hid (box_adds F2.out hA)
            replace F5 := hid (row_touch F5.out hA (fun _ _ => id))
            clear hA hg11 hW4
            refine Pe_all (rs := [9]) (by kernel_rfl) (by simp) (fun jj hj => ?_)
            obtain rfl := List.mem_singleton.1 hj
            obtain ⟨i0, hi, hz0, hz1, hz2⟩ := infoEI
            refine EO_do (some 15) rfl rfl rfl (fun K' hK => ?_)
            refine wp_append_lit 24 3 i0 (.int .i64 0) 8 Try.underlying24 hi hz0 hz1 hz2 rfl (.tmp 12) (.tmp 14) rfl w2.heap.size g6 HG6.out F6.out rfl ia zn ic (Is zs) rfl (show (Is zs).length = zn by rw [len_Is, HZn.out]) (HQ.out.kids.adds (HA2.out.trans hS)) HQ.out.inn (one_Is zs) HZ9.out (by decide) ?_
            intro a9 c9 W5 r1 hA
            refine hK _ _ (fun _ => Touch.trans hS hA) ?_
            simp only [Act.put, List.setIfInBounds_toArray, List.set_cons_zero, List.set_cons_succ]
            have F9 := hid r1
            replace hS : (fun W : World => Adds w2 W) W5 := Touch.trans hS hA
            replace F6 := hid (box_adds F6.out hA)
            replace F2 := hid (box_adds F2.out hA)
            replace F5 := hid (row_touch F5.out hA (fun _ _ => id))
            replace F11 := hid (box_adds F11.out hA)
            clear hA r1 hi hz0 hz1 hz2
            refine Pe_put (i := 10) 16 (v := .agg #[.bool leaf, .slice a5 kn c5, .slice none 0 0, .slice a9 zn c9]) rfl rfl (by kernel_rfl) (by kernel_rfl) (by kernel_rfl) (by kernel_rfl) (fun _ _ _ h => h) (Or.inl ⟨by rfl, fun w' hw' => ?_⟩) hS ?_
            · go_simp
            simp only [Act.put, List.setIfInBounds_toArray, List.set_cons_zero, List.set_cons_succ]
            refine Pe_do (i := 12) none (by kernel_rfl) rfl rfl rfl (fun K' hK => ?_)
            refine Go.wp_store_row 28 _ _ rfl g11 #[.bool leaf, .slice a5 kn c5, .slice none 0 0, .slice a9 zn c9] rfl rfl 28 _ F11.out (info4 _ _ _ _) rfl (one4 _ _ _ _ _ _ _ _ _ _) ?_
            refine hK _ _ (fun h => absurd rfl h) (Pe_done (by kernel_rfl) ?_ _)
            have HEnd := hid (pc_made (leaf := leaf) (Touch.refl _ w2) hS HG11.out F11.out F5.out F9.out HKn.out HZn.out)
            clear hS
            simp only [Act.put]
            go_wp2
            go_meet
            case rel => exact ⟨g11, a5, c5, a9, c9, rfl, HEnd⟩
        · refine EO_value 3 (v := .pointer (some ⟨W2.heap.size, 0, none⟩)) (w' := W2.alloc NZ) rfl rfl (by rfl) (by go_simp) (Touch.alloc hS _) ?_
          simp only [Act.put, List.setIfInBounds_toArray, List.set_cons_zero, List.set_cons_succ]
          obtain ⟨g11, hg11⟩ : ∃ g, g = W2.heap.size := ⟨_, rfl⟩
          obtain ⟨W3, hW3⟩ : ∃ W, W = W2.alloc NZ := ⟨_, rfl⟩
          have hA : Adds W2 W3 := by rw [hW3]; exact (Touch.refl _ _).alloc _
          have F11 := hid (show W3.heap[g11]? = some NZ by rw [hW3, hg11]; exact heap_alloc_new _ _)
          have HG11 := hid (show w2.heap.size ≤ g11 by rw [hg11]; exact hS.size)
          rw [← hg11, ← hW3]
          replace hS : (fun W : World => Adds w2 W) W3 := Touch.trans hS hA
          replace F6 := hid (box_adds F6.out hA)
          replace F2 := hid (box_adds F2.out hA)
          clear hA hg11 hW3
          refine Pe_all (rs := [5]) (by kernel_rfl) (by simp) (fun jj hj => ?_)
          obtain rfl := List.mem_singleton.1 hj
          obtain ⟨i0, hi, hz0, hz1, hz2⟩ := infoES
          refine EO_do (some 11) rfl rfl rfl (fun K' hK => ?_)
          refine wp_append_lit 22 9 i0 (.string ⟨#[]⟩) 16 Try.underlying22 hi hz0 hz1 hz2 rfl (.tmp 8) (.tmp 10) rfl w2.heap.size g2 HG2.out F2.out rfl ka kn kc (Ss ks) rfl (show (Ss ks).length = kn by rw [len_Ss, HKn.out]) (HQ.out.keys.adds (HA2.out.trans hS)) HQ.out.kn (one_Ss ks) HK9.out (by decide) ?_
          intro a5 c5 W4 r1 hA
          refine hK _ _ (fun _ => Touch.trans hS hA) ?_
          simp only [Act.put, List.setIfInBounds_toArray, List.set_cons_zero, List.set_cons_succ]
          have F5 := hid r1
          replace hS : (fun W : World => Adds w2 W) W4 := Touch.trans hS hA
          replace F6 := hid (box_adds F6.out hA)
          replace F2 := hid (box_adds F2.out hA)
          replace F11 := hid (box_adds F11.out hA)
          clear hA r1 hi hz0 hz1 hz2
          refine Pe_all (rs := [9]) (by kernel_rfl) (by simp) (fun jj hj => ?_)
          obtain rfl := List.mem_singleton.1 hj
          obtain ⟨i0, hi, hz0, hz1, hz2⟩ := infoEI
          refine EO_do (some 15) rfl rfl rfl (fun K' hK => ?_)
          refine wp_append_lit 24 3 i0 (.int .i64 0) 8 Try.underlying24 hi hz0 hz1 hz2 rfl (.tmp 12) (.tmp 14) rfl w2.heap.size g6 HG6.out F6.out rfl ia zn ic (Is zs) rfl (show (Is zs).length = zn by rw [len_Is, HZn.out]) (HQ.out.kids.adds (HA2.out.trans hS)) HQ.out.inn (one_Is zs) HZ9.out (by decide) ?_
          intro a9 c9 W5 r1 hA
          refine hK _ _ (fun _ => Touch.trans hS hA) ?_
          simp only [Act.put, List.setIfInBounds_toArray, List.set_cons_zero, List.set_cons_succ]
          have F9 := hid r1
          replace hS : (fun W : World => Adds w2 W) W5 := Touch.trans hS hA
          replace F6 := hid (box_adds F6.out hA)
          replace F2 := hid (box_adds F2.out hA)
          replace F11 := hid (box_adds F11.out hA)
          replace F5 := hid (row_touch F5.out hA (fun _ _ => id))
          clear hA r1 hi hz0 hz1 hz2
          refine Pe_put (i := 10) 16 (v := .agg #[.bool leaf, .slice a5 kn c5, .slice none 0 0, .slice a9 zn c9]) rfl rfl (by kernel_rfl) (by kernel_rfl) (by kernel_rfl) (by kernel_rfl) (fun _ _ _ h => h) (Or.inl ⟨by rfl, fun w' hw' => ?_⟩) hS ?_
          · go_simp
          simp only [Act.put, List.setIfInBounds_toArray, List.set_cons_zero, List.set_cons_succ]
          refine Pe_do (i := 12) none (by kernel_rfl) rfl rfl rfl (fun K' hK => ?_)
          refine Go.wp_store_row 28 _ _ rfl g11 #[.bool leaf, .slice a5 kn c5, .slice none 0 0, .slice a9 zn c9] rfl rfl 28 _ F11.out (info4 _ _ _ _) rfl (one4 _ _ _ _ _ _ _ _ _ _) ?_
          refine hK _ _ (fun h => absurd rfl h) (Pe_done (by kernel_rfl) ?_ _)
          have HEnd := hid (pc_made (leaf := leaf) (Touch.refl _ w2) hS HG11.out F11.out F5.out F9.out HKn.out HZn.out)
          clear hS
          simp only [Act.put]
          go_wp2
          go_meet
          case rel => exact ⟨g11, a5, c5, a9, c9, rfl, HEnd⟩
      · refine EO_value 3 (v := .pointer (some ⟨W1.heap.size, 0, none⟩)) (w' := W1.alloc NZ) rfl rfl (by rfl) (by go_simp) (Touch.alloc hS _) ?_
        simp only [Act.put, List.setIfInBounds_toArray, List.set_cons_zero, List.set_cons_succ]
        obtain ⟨g11, hg11⟩ : ∃ g, g = W1.heap.size := ⟨_, rfl⟩
        obtain ⟨W2, hW2⟩ : ∃ W, W = W1.alloc NZ := ⟨_, rfl⟩
        have hA : Adds W1 W2 := by rw [hW2]; exact (Touch.refl _ _).alloc _
        have F11 := hid (show W2.heap[g11]? = some NZ by rw [hW2, hg11]; exact heap_alloc_new _ _)
        have HG11 := hid (show w2.heap.size ≤ g11 by rw [hg11]; exact hS.size)
        rw [← hg11, ← hW2]
        replace hS : (fun W : World => Adds w2 W) W2 := Touch.trans hS hA
        replace F6 := hid (box_adds F6.out hA)
        clear hA hg11 hW2
        refine Pe_all (rs := [2]) (by kernel_rfl) (by simp) (fun jj hj => ?_)
        obtain rfl := List.mem_singleton.1 hj
        refine EO_value 8 (v := .slice (some ⟨W2.heap.size, 0, none⟩) 0 0) (w' := W2.alloc (.cells #[] 9)) rfl rfl (by rfl) (by go_simp) (Touch.alloc hS _) ?_
        simp only [Act.put, List.setIfInBounds_toArray, List.set_cons_zero, List.set_cons_succ]
        obtain ⟨g2, hg2⟩ : ∃ g, g = W2.heap.size := ⟨_, rfl⟩
        obtain ⟨W3, hW3⟩ : ∃ W, W = W2.alloc (.cells #[] 9) := ⟨_, rfl⟩
        have hA : Adds W2 W3 := by rw [hW3]; exact (Touch.refl _ _).alloc _
        have F2 := hid (show W3.heap[g2]? = some (.cells #[] 9) by rw [hW3, hg2]; exact heap_alloc_new _ _)
        have HG2 := hid (show w2.heap.size ≤ g2 by rw [hg2]; exact hS.size)
        rw [← hg2, ← hW3]
        replace hS : (fun W : World => Adds w2 W) W3 := Touch.trans hS hA
        replace F6 := hid (box_adds F6.out hA)
        replace F11 := hid (box_adds F11.out hA)
        clear hA hg2 hW3
        refine Pe_all (rs := [5]) (by kernel_rfl) (by simp) (fun jj hj => ?_)
        obtain rfl := List.mem_singleton.1 hj
        obtain ⟨i0, hi, hz0, hz1, hz2⟩ := infoES
        refine EO_do (some 11) rfl rfl rfl (fun K' hK => ?_)
        refine wp_append_lit 22 9 i0 (.string ⟨#[]⟩) 16 Try.underlying22 hi hz0 hz1 hz2 rfl (.tmp 8) (.tmp 10) rfl w2.heap.size g2 HG2.out F2.out rfl ka kn kc (Ss ks) rfl (show (Ss ks).length = kn by rw [len_Ss, HKn.out]) (HQ.out.keys.adds (HA2.out.trans hS)) HQ.out.kn (one_Ss ks) HK9.out (by decide) ?_
        intro a5 c5 W4 r1 hA
        refine hK _ _ (fun _ => Touch.trans hS hA) ?_
        simp only [Act.put, List.setIfInBounds_toArray, List.set_cons_zero, List.set_cons_succ]
        have F5 := hid r1
        replace hS : (fun W : World => Adds w2 W) W4 := Touch.trans hS hA
        replace F6 := hid (box_adds F6.out hA)
        replace F11 := hid (box_adds F11.out hA)
        replace F2 := hid (box_adds F2.out hA)
        clear hA r1 hi hz0 hz1 hz2
        refine Pe_all (rs := [9]) (by kernel_rfl) (by simp) (fun jj hj => ?_)
        obtain rfl := List.mem_singleton.1 hj
        obtain ⟨i0, hi, hz0, hz1, hz2⟩ := infoEI
        refine EO_do (some 15) rfl rfl rfl (fun K' hK => ?_)
        refine wp_append_lit 24 3 i0 (.int .i64 0) 8 Try.underlying24 hi hz0 hz1 hz2 rfl (.tmp 12) (.tmp 14) rfl w2.heap.size g6 HG6.out F6.out rfl ia zn ic (Is zs) rfl (show (Is zs).length = zn by rw [len_Is, HZn.out]) (HQ.out.kids.adds (HA2.out.trans hS)) HQ.out.inn (one_Is zs) HZ9.out (by decide) ?_
        intro a9 c9 W5 r1 hA
        refine hK _ _ (fun _ => Touch.trans hS hA) ?_
        simp only [Act.put, List.setIfInBounds_toArray, List.set_cons_zero, List.set_cons_succ]
        have F9 := hid r1
        replace hS : (fun W : World => Adds w2 W) W5 := Touch.trans hS hA
        replace F6 := hid (box_adds F6.out hA)
        replace F11 := hid (box_adds F11.out hA)
        replace F2 := hid (box_adds F2.out hA)
        replace F5 := hid (row_touch F5.out hA (fun _ _ => id))
        clear hA r1 hi hz0 hz1 hz2
        refine Pe_put (i := 10) 16 (v := .agg #[.bool leaf, .slice a5 kn c5, .slice none 0 0, .slice a9 zn c9]) rfl rfl (by kernel_rfl) (by kernel_rfl) (by kernel_rfl) (by kernel_rfl) (fun _ _ _ h => h) (Or.inl ⟨by rfl, fun w' hw' => ?_⟩) hS ?_
        · go_simp
        simp only [Act.put, List.setIfInBounds_toArray, List.set_cons_zero, List.set_cons_succ]
        refine Pe_do (i := 12) none (by kernel_rfl) rfl rfl rfl (fun K' hK => ?_)
        refine Go.wp_store_row 28 _ _ rfl g11 #[.bool leaf, .slice a5 kn c5, .slice none 0 0, .slice a9 zn c9] rfl rfl 28 _ F11.out (info4 _ _ _ _) rfl (one4 _ _ _ _ _ _ _ _ _ _) ?_
        refine hK _ _ (fun h => absurd rfl h) (Pe_done (by kernel_rfl) ?_ _)
        have HEnd := hid (pc_made (leaf := leaf) (Touch.refl _ w2) hS HG11.out F11.out F5.out F9.out HKn.out HZn.out)
        clear hS
        simp only [Act.put]
        go_wp2
        go_meet
        case rel => exact ⟨g11, a5, c5, a9, c9, rfl, HEnd⟩
    · refine EO_value 3 (v := .pointer (some ⟨W0.heap.size, 0, none⟩)) (w' := W0.alloc NZ) rfl rfl (by rfl) (by go_simp) (Touch.alloc hS _) ?_
      simp only [Act.put, List.setIfInBounds_toArray, List.set_cons_zero, List.set_cons_succ]
      obtain ⟨g11, hg11⟩ : ∃ g, g = W0.heap.size := ⟨_, rfl⟩
      obtain ⟨W1, hW1⟩ : ∃ W, W = W0.alloc NZ := ⟨_, rfl⟩
      have hA : Adds W0 W1 := by rw [hW1]; exact (Touch.refl _ _).alloc _
      have F11 := hid (show W1.heap[g11]? = some NZ by rw [hW1, hg11]; exact heap_alloc_new _ _)
      have HG11 := hid (show w2.heap.size ≤ g11 by rw [hg11]; exact hS.size)
      rw [← hg11, ← hW1]
      replace hS : (fun W : World => Adds w2 W) W1 := Touch.trans hS hA
      clear hA hg11 hW1
      refine Pe_all (rs := [2, 6]) (by kernel_rfl) (by simp) (fun jj hj => ?_)
      simp only [List.mem_cons, List.not_mem_nil, or_false] at hj
      rcases hj with rfl | rfl
      · refine EO_value 8 (v := .slice (some ⟨W1.heap.size, 0, none⟩) 0 0) (w' := W1.alloc (.cells #[] 9)) rfl rfl (by rfl) (by go_simp) (Touch.alloc hS _) ?_
        simp only [Act.put, List.setIfInBounds_toArray, List.set_cons_zero, List.set_cons_succ]
        obtain ⟨g2, hg2⟩ : ∃ g, g = W1.heap.size := ⟨_, rfl⟩
        obtain ⟨W2, hW2⟩ : ∃ W, W = W1.alloc (.cells #[] 9) := ⟨_, rfl⟩
        have hA : Adds W1 W2 := by rw [hW2]; exact (Touch.refl _ _).alloc _
        have F2 := hid (show W2.heap[g2]? = some (.cells #[] 9) by rw [hW2, hg2]; exact heap_alloc_new _ _)
        have HG2 := hid (show w2.heap.size ≤ g2 by rw [hg2]; exact hS.size)
        rw [← hg2, ← hW2]
        replace hS : (fun W : World => Adds w2 W) W2 := Touch.trans hS hA
        replace F11 := hid (box_adds F11.out hA)
        clear hA hg2 hW2
        refine Pe_all (rs := [5, 6]) (by kernel_rfl) (by simp) (fun jj hj => ?_)
        simp only [List.mem_cons, List.not_mem_nil, or_false] at hj
        rcases hj with rfl | rfl
        · obtain ⟨i0, hi, hz0, hz1, hz2⟩ := infoES
          refine EO_do (some 11) rfl rfl rfl (fun K' hK => ?_)
          refine wp_append_lit 22 9 i0 (.string ⟨#[]⟩) 16 Try.underlying22 hi hz0 hz1 hz2 rfl (.tmp 8) (.tmp 10) rfl w2.heap.size g2 HG2.out F2.out rfl ka kn kc (Ss ks) rfl (show (Ss ks).length = kn by rw [len_Ss, HKn.out]) (HQ.out.keys.adds (HA2.out.trans hS)) HQ.out.kn (one_Ss ks) HK9.out (by decide) ?_
          intro a5 c5 W3 r1 hA
          refine hK _ _ (fun _ => Touch.trans hS hA) ?_
          simp only [Act.put, List.setIfInBounds_toArray, List.set_cons_zero, List.set_cons_succ]
          have F5 := hid r1
          replace hS : (fun W : World => Adds w2 W) W3 := Touch.trans hS hA
          replace F11 := hid (box_adds F11.out hA)
          replace F2 := hid (box_adds F2.out hA)
          clear hA r1 hi hz0 hz1 hz2
          refine Pe_all (rs := [6]) (by kernel_rfl) (by simp) (fun jj hj => ?_)
          obtain rfl := List.mem_singleton.1 hj
          refine EO_value 12 (v := .slice (some ⟨W3.heap.size, 0, none⟩) 0 0) (w' := W3.alloc (.cells #[] 3)) rfl rfl (by rfl) (by go_simp) (Touch.alloc hS _) ?_
          simp only [Act.put, List.setIfInBounds_toArray, List.set_cons_zero, List.set_cons_succ]
          obtain ⟨g6, hg6⟩ : ∃ g, g = W3.heap.size := ⟨_, rfl⟩
          obtain ⟨W4, hW4⟩ : ∃ W, W = W3.alloc (.cells #[] 3) := ⟨_, rfl⟩
          have hA : Adds W3 W4 := by rw [hW4]; exact (Touch.refl _ _).alloc _
          have F6 := hid (show W4.heap[g6]? = some (.cells #[] 3) by rw [hW4, hg6]; exact heap_alloc_new _ _)
          have HG6 := hid (show w2.heap.size ≤ g6 by rw [hg6]; exact hS.size)
          rw [← hg6, ← hW4]
          replace hS : (fun W : World => Adds w2 W) W4 := Touch.trans hS hA
          replace F11 := hid (box_adds F11.out hA)
          replace F2 := hid (box_adds F2.out hA)
          replace F5 := hid (row_touch F5.out hA (fun _ _ => id))
          clear hA hg6 hW4
          refine Pe_all (rs := [9]) (by kernel_rfl) (by simp) (fun jj hj => ?_)
          obtain rfl := List.mem_singleton.1 hj
          obtain ⟨i0, hi, hz0, hz1, hz2⟩ := infoEI
          refine EO_do (some 15) rfl rfl rfl (fun K' hK => ?_)
          refine wp_append_lit 24 3 i0 (.int .i64 0) 8 Try.underlying24 hi hz0 hz1 hz2 rfl (.tmp 12) (.tmp 14) rfl w2.heap.size g6 HG6.out F6.out rfl ia zn ic (Is zs) rfl (show (Is zs).length = zn by rw [len_Is, HZn.out]) (HQ.out.kids.adds (HA2.out.trans hS)) HQ.out.inn (one_Is zs) HZ9.out (by decide) ?_
          intro a9 c9 W5 r1 hA
          refine hK _ _ (fun _ => Touch.trans hS hA) ?_
          simp only [Act.put, List.setIfInBounds_toArray, List.set_cons_zero, List.set_cons_succ]
          have F9 := hid r1
          replace hS : (fun W : World => Adds w2 W) W5 := Touch.trans hS hA
          replace F11 := hid (box_adds F11.out hA)
          replace F2 := hid (box_adds F2.out hA)
          replace F5 := hid (row_touch F5.out hA (fun _ _ => id))
          replace F6 := hid (box_adds F6.out hA)
          clear hA r1 hi hz0 hz1 hz2
          refine Pe_put (i := 10) 16 (v := .agg #[.bool leaf, .slice a5 kn c5, .slice none 0 0, .slice a9 zn c9]) rfl rfl (by kernel_rfl) (by kernel_rfl) (by kernel_rfl) (by kernel_rfl) (fun _ _ _ h => h) (Or.inl ⟨by rfl, fun w' hw' => ?_⟩) hS ?_
          · go_simp
          simp only [Act.put, List.setIfInBounds_toArray, List.set_cons_zero, List.set_cons_succ]
          refine Pe_do (i := 12) none (by kernel_rfl) rfl rfl rfl (fun K' hK => ?_)
          refine Go.wp_store_row 28 _ _ rfl g11 #[.bool leaf, .slice a5 kn c5, .slice none 0 0, .slice a9 zn c9] rfl rfl 28 _ F11.out (info4 _ _ _ _) rfl (one4 _ _ _ _ _ _ _ _ _ _) ?_
          refine hK _ _ (fun h => absurd rfl h) (Pe_done (by kernel_rfl) ?_ _)
          have HEnd := hid (pc_made (leaf := leaf) (Touch.refl _ w2) hS HG11.out F11.out F5.out F9.out HKn.out HZn.out)
          clear hS
          simp only [Act.put]
          go_wp2
          go_meet
          case rel => exact ⟨g11, a5, c5, a9, c9, rfl, HEnd⟩
        · refine EO_value 12 (v := .slice (some ⟨W2.heap.size, 0, none⟩) 0 0) (w' := W2.alloc (.cells #[] 3)) rfl rfl (by rfl) (by go_simp) (Touch.alloc hS _) ?_
          simp only [Act.put, List.setIfInBounds_toArray, List.set_cons_zero, List.set_cons_succ]
          obtain ⟨g6, hg6⟩ : ∃ g, g = W2.heap.size := ⟨_, rfl⟩
          obtain ⟨W3, hW3⟩ : ∃ W, W = W2.alloc (.cells #[] 3) := ⟨_, rfl⟩
          have hA : Adds W2 W3 := by rw [hW3]; exact (Touch.refl _ _).alloc _
          have F6 := hid (show W3.heap[g6]? = some (.cells #[] 3) by rw [hW3, hg6]; exact heap_alloc_new _ _)
          have HG6 := hid (show w2.heap.size ≤ g6 by rw [hg6]; exact hS.size)
          rw [← hg6, ← hW3]
          replace hS : (fun W : World => Adds w2 W) W3 := Touch.trans hS hA
          replace F11 := hid (box_adds F11.out hA)
          replace F2 := hid (box_adds F2.out hA)
          clear hA hg6 hW3
          refine Pe_all (rs := [5]) (by kernel_rfl) (by simp) (fun jj hj => ?_)
          obtain rfl := List.mem_singleton.1 hj
          obtain ⟨i0, hi, hz0, hz1, hz2⟩ := infoES
          refine EO_do (some 11) rfl rfl rfl (fun K' hK => ?_)
          refine wp_append_lit 22 9 i0 (.string ⟨#[]⟩) 16 Try.underlying22 hi hz0 hz1 hz2 rfl (.tmp 8) (.tmp 10) rfl w2.heap.size g2 HG2.out F2.out rfl ka kn kc (Ss ks) rfl (show (Ss ks).length = kn by rw [len_Ss, HKn.out]) (HQ.out.keys.adds (HA2.out.trans hS)) HQ.out.kn (one_Ss ks) HK9.out (by decide) ?_
          intro a5 c5 W4 r1 hA
          refine hK _ _ (fun _ => Touch.trans hS hA) ?_
          simp only [Act.put, List.setIfInBounds_toArray, List.set_cons_zero, List.set_cons_succ]
          have F5 := hid r1
          replace hS : (fun W : World => Adds w2 W) W4 := Touch.trans hS hA
          replace F11 := hid (box_adds F11.out hA)
          replace F2 := hid (box_adds F2.out hA)
          replace F6 := hid (box_adds F6.out hA)
          clear hA r1 hi hz0 hz1 hz2
          refine Pe_all (rs := [9]) (by kernel_rfl) (by simp) (fun jj hj => ?_)
          obtain rfl := List.mem_singleton.1 hj
          obtain ⟨i0, hi, hz0, hz1, hz2⟩ := infoEI
          refine EO_do (some 15) rfl rfl rfl (fun K' hK => ?_)
          refine wp_append_lit 24 3 i0 (.int .i64 0) 8 Try.underlying24 hi hz0 hz1 hz2 rfl (.tmp 12) (.tmp 14) rfl w2.heap.size g6 HG6.out F6.out rfl ia zn ic (Is zs) rfl (show (Is zs).length = zn by rw [len_Is, HZn.out]) (HQ.out.kids.adds (HA2.out.trans hS)) HQ.out.inn (one_Is zs) HZ9.out (by decide) ?_
          intro a9 c9 W5 r1 hA
          refine hK _ _ (fun _ => Touch.trans hS hA) ?_
          simp only [Act.put, List.setIfInBounds_toArray, List.set_cons_zero, List.set_cons_succ]
          have F9 := hid r1
          replace hS : (fun W : World => Adds w2 W) W5 := Touch.trans hS hA
          replace F11 := hid (box_adds F11.out hA)
          replace F2 := hid (box_adds F2.out hA)
          replace F6 := hid (box_adds F6.out hA)
          replace F5 := hid (row_touch F5.out hA (fun _ _ => id))
          clear hA r1 hi hz0 hz1 hz2
          refine Pe_put (i := 10) 16 (v := .agg #[.bool leaf, .slice a5 kn c5, .slice none 0 0, .slice a9 zn c9]) rfl rfl (by kernel_rfl) (by kernel_rfl) (by kernel_rfl) (by kernel_rfl) (fun _ _ _ h => h) (Or.inl ⟨by rfl, fun w' hw' => ?_⟩) hS ?_
          · go_simp
          simp only [Act.put, List.setIfInBounds_toArray, List.set_cons_zero, List.set_cons_succ]
          refine Pe_do (i := 12) none (by kernel_rfl) rfl rfl rfl (fun K' hK => ?_)
          refine Go.wp_store_row 28 _ _ rfl g11 #[.bool leaf, .slice a5 kn c5, .slice none 0 0, .slice a9 zn c9] rfl rfl 28 _ F11.out (info4 _ _ _ _) rfl (one4 _ _ _ _ _ _ _ _ _ _) ?_
          refine hK _ _ (fun h => absurd rfl h) (Pe_done (by kernel_rfl) ?_ _)
          have HEnd := hid (pc_made (leaf := leaf) (Touch.refl _ w2) hS HG11.out F11.out F5.out F9.out HKn.out HZn.out)
          clear hS
          simp only [Act.put]
          go_wp2
          go_meet
          case rel => exact ⟨g11, a5, c5, a9, c9, rfl, HEnd⟩
      · refine EO_value 12 (v := .slice (some ⟨W1.heap.size, 0, none⟩) 0 0) (w' := W1.alloc (.cells #[] 3)) rfl rfl (by rfl) (by go_simp) (Touch.alloc hS _) ?_
        simp only [Act.put, List.setIfInBounds_toArray, List.set_cons_zero, List.set_cons_succ]
        obtain ⟨g6, hg6⟩ : ∃ g, g = W1.heap.size := ⟨_, rfl⟩
        obtain ⟨W2, hW2⟩ : ∃ W, W = W1.alloc (.cells #[] 3) := ⟨_, rfl⟩
        have hA : Adds W1 W2 := by rw [hW2]; exact (Touch.refl _ _).alloc _
        have F6 := hid (show W2.heap[g6]? = some (.cells #[] 3) by rw [hW2, hg6]; exact heap_alloc_new _ _)
        have HG6 := hid (show w2.heap.size ≤ g6 by rw [hg6]; exact hS.size)
        rw [← hg6, ← hW2]
        replace hS : (fun W : World => Adds w2 W) W2 := Touch.trans hS hA
        replace F11 := hid (box_adds F11.out hA)
        clear hA hg6 hW2
        refine Pe_all (rs := [2]) (by kernel_rfl) (by simp) (fun jj hj => ?_)
        obtain rfl := List.mem_singleton.1 hj
        refine EO_value 8 (v := .slice (some ⟨W2.heap.size, 0, none⟩) 0 0) (w' := W2.alloc (.cells #[] 9)) rfl rfl (by rfl) (by go_simp) (Touch.alloc hS _) ?_
        simp only [Act.put, List.setIfInBounds_toArray, List.set_cons_zero, List.set_cons_succ]
        obtain ⟨g2, hg2⟩ : ∃ g, g = W2.heap.size := ⟨_, rfl⟩
        obtain ⟨W3, hW3⟩ : ∃ W, W = W2.alloc (.cells #[] 9) := ⟨_, rfl⟩
        have hA : Adds W2 W3 := by rw [hW3]; exact (Touch.refl _ _).alloc _
        have F2 := hid (show W3.heap[g2]? = some (.cells #[] 9) by rw [hW3, hg2]; exact heap_alloc_new _ _)
        have HG2 := hid (show w2.heap.size ≤ g2 by rw [hg2]; exact hS.size)
        rw [← hg2, ← hW3]
        replace hS : (fun W : World => Adds w2 W) W3 := Touch.trans hS hA
        replace F11 := hid (box_adds F11.out hA)
        replace F6 := hid (box_adds F6.out hA)
        clear hA hg2 hW3
        refine Pe_all (rs := [5]) (by kernel_rfl) (by simp) (fun jj hj => ?_)
        obtain rfl := List.mem_singleton.1 hj
        obtain ⟨i0, hi, hz0, hz1, hz2⟩ := infoES
        refine EO_do (some 11) rfl rfl rfl (fun K' hK => ?_)
        refine wp_append_lit 22 9 i0 (.string ⟨#[]⟩) 16 Try.underlying22 hi hz0 hz1 hz2 rfl (.tmp 8) (.tmp 10) rfl w2.heap.size g2 HG2.out F2.out rfl ka kn kc (Ss ks) rfl (show (Ss ks).length = kn by rw [len_Ss, HKn.out]) (HQ.out.keys.adds (HA2.out.trans hS)) HQ.out.kn (one_Ss ks) HK9.out (by decide) ?_
        intro a5 c5 W4 r1 hA
        refine hK _ _ (fun _ => Touch.trans hS hA) ?_
        simp only [Act.put, List.setIfInBounds_toArray, List.set_cons_zero, List.set_cons_succ]
        have F5 := hid r1
        replace hS : (fun W : World => Adds w2 W) W4 := Touch.trans hS hA
        replace F11 := hid (box_adds F11.out hA)
        replace F6 := hid (box_adds F6.out hA)
        replace F2 := hid (box_adds F2.out hA)
        clear hA r1 hi hz0 hz1 hz2
        refine Pe_all (rs := [9]) (by kernel_rfl) (by simp) (fun jj hj => ?_)
        obtain rfl := List.mem_singleton.1 hj
        obtain ⟨i0, hi, hz0, hz1, hz2⟩ := infoEI
        refine EO_do (some 15) rfl rfl rfl (fun K' hK => ?_)
        refine wp_append_lit 24 3 i0 (.int .i64 0) 8 Try.underlying24 hi hz0 hz1 hz2 rfl (.tmp 12) (.tmp 14) rfl w2.heap.size g6 HG6.out F6.out rfl ia zn ic (Is zs) rfl (show (Is zs).length = zn by rw [len_Is, HZn.out]) (HQ.out.kids.adds (HA2.out.trans hS)) HQ.out.inn (one_Is zs) HZ9.out (by decide) ?_
        intro a9 c9 W5 r1 hA
        refine hK _ _ (fun _ => Touch.trans hS hA) ?_
        simp only [Act.put, List.setIfInBounds_toArray, List.set_cons_zero, List.set_cons_succ]
        have F9 := hid r1
        replace hS : (fun W : World => Adds w2 W) W5 := Touch.trans hS hA
        replace F11 := hid (box_adds F11.out hA)
        replace F6 := hid (box_adds F6.out hA)
        replace F2 := hid (box_adds F2.out hA)
        replace F5 := hid (row_touch F5.out hA (fun _ _ => id))
        clear hA r1 hi hz0 hz1 hz2
        refine Pe_put (i := 10) 16 (v := .agg #[.bool leaf, .slice a5 kn c5, .slice none 0 0, .slice a9 zn c9]) rfl rfl (by kernel_rfl) (by kernel_rfl) (by kernel_rfl) (by kernel_rfl) (fun _ _ _ h => h) (Or.inl ⟨by rfl, fun w' hw' => ?_⟩) hS ?_
        · go_simp
        simp only [Act.put, List.setIfInBounds_toArray, List.set_cons_zero, List.set_cons_succ]
        refine Pe_do (i := 12) none (by kernel_rfl) rfl rfl rfl (fun K' hK => ?_)
        refine Go.wp_store_row 28 _ _ rfl g11 #[.bool leaf, .slice a5 kn c5, .slice none 0 0, .slice a9 zn c9] rfl rfl 28 _ F11.out (info4 _ _ _ _) rfl (one4 _ _ _ _ _ _ _ _ _ _) ?_
        refine hK _ _ (fun h => absurd rfl h) (Pe_done (by kernel_rfl) ?_ _)
        have HEnd := hid (pc_made (leaf := leaf) (Touch.refl _ w2) hS HG11.out F11.out F5.out F9.out HKn.out HZn.out)
        clear hS
        simp only [Act.put]
        go_wp2
        go_meet
        case rel => exact ⟨g11, a5, c5, a9, c9, rfl, HEnd⟩
  case rest =>
    obtain ⟨N5, a5, c5, a9, c9, rfl, HP0⟩ := hcut
    obtain ⟨_, _, x2, _⟩ := box_cells (box_adds HB0.out HP0.out.adds)
    go_upto_region 3 with fail
    clear x2
    go_loopw [20] (fun t wx => ∃ (i : Nat) (a7 : Option Addr) (c7 : Nat) (hs : List Part), i ≤ vn ∧ t = .int .i64 (i : Int) ∧ Hid (Pc w2 wx N5 leaf ⟨leaf, a5, c5, ks, ⟨a7, c7, hs⟩, a9, c9, zs⟩ ∧ hs.map (·.bs) = g.bs.take i)) (fun t _ => vn - (intOf t).toNat)
    case atStart => exact ⟨0, none, 0, [], Nat.zero_le _, rfl, HP0.out, rfl⟩
    case round =>
      obtain ⟨i, a7, c7, hs, hi, rfl, HI⟩ := hrel
      by_cases hlt : i < vn
      · have hlz : (i : Int) < (vn : Int) := by omega
        have hi1 : i < g.l.length := by rw [← HVn.out]; exact hlt
        obtain ⟨b, o, ea, hc0⟩ := HQ.out.vals.cell hi1
        obtain ⟨p, hp⟩ : ∃ p, p = g.l[i] := ⟨_, rfl⟩
        have hq := (HQ.out.vals.all _ (List.getElem_mem hi1))
        rw [← hp] at hq
        have HPq := hid hq
        have HM9 := hid (show p.bs.length * 1 ≤ 140737488355328 from HVs.out p (by rw [hp]; exact List.getElem_mem hi1))
        obtain ⟨m, hm⟩ : ∃ m, m = p.bs.length := ⟨_, rfl⟩
        obtain ⟨pa, hpa⟩ : ∃ a, a = p.a := ⟨_, rfl⟩
        obtain ⟨pc, hpc⟩ : ∃ a, a = p.cap := ⟨_, rfl⟩
        have hc : wr.cell? ⟨b, o + i, none⟩ = some (.slice pa m pc) := by rw [hm, hpa, hpc, hp]; exact below_adds (HA2.out.trans HI.out.1.adds) hc0
        have HBs := hid (show g.bs.take (i + 1) = g.bs.take i ++ [p.bs] by
          rw [List.take_add_one, Pl.bs, List.getElem?_map, List.getElem?_eq_getElem hi1, ← hp]; rfl)
        have ea' : ga = some ⟨b, o, none⟩ := by rw [HGa.out]; exact ea
        rw [ea']
        have HM := hid hm
        have HPa := hid hpa
        have HPc := hid hpc
        obtain ⟨hl, hhl⟩ : ∃ n, n = hs.length := ⟨_, rfl⟩
        have HHl := hid hhl
        have HHl9 := hid (show (hl + 1) * 24 ≤ 140737488355328 by
          have q := congrArg List.length HI.out.2
          rw [List.length_map, List.length_take] at q
          have := HV9.out
          omega)
        have HBx := hid (show wr.heap[N5]? = some (.cells #[.bool leaf, .slice a5 kn c5, .slice a7 hl c7, .slice a9 zn c9] 28 (0, 0)) by rw [hhl, HKn.out, HZn.out]; exact HI.out.1.box)
        clear hc0 hp hm hpa hpc ea ea' hi1 hq hhl
        go_upto_region 5 with fail
        clear hc
        refine Pe_begin (S := fun W : World => W.heap[N5]? = some (.cells #[.bool leaf, .slice a5 kn c5, .slice a7 hl c7, .slice a9 zn c9] 28 (0, 0))) (X := 8) (by kernel_rfl) ?_
        have hS : (fun W : World => W.heap[N5]? = some (.cells #[.bool leaf, .slice a5 kn c5, .slice a7 hl c7, .slice a9 zn c9] 28 (0, 0))) wr.drew := HBx.out
        refine Pe_put (i := 0) 24 (v := .pointer (some ⟨N5, 2, none⟩)) rfl rfl (by kernel_rfl) (by kernel_rfl) (by kernel_rfl) (by kernel_rfl) (fun _ _ _ h => h) (Or.inl ⟨by rfl, fun w' hw' => ?_⟩) hS ?_
        · go_simp
        simp only [Act.put, List.setIfInBounds_toArray, List.set_cons_zero, List.set_cons_succ]
        refine Pe_put (i := 1) 25 (v := .slice a7 hl c7) rfl rfl (by kernel_rfl) (by kernel_rfl) (by kernel_rfl) (by kernel_rfl) (fun _ _ _ h => h) (Or.inl ⟨by rfl, fun w' hw' => ?_⟩) hS ?_
        · (have c := cellOf hw' 2; clear hw'; go_simp)
        simp only [Act.put, List.setIfInBounds_toArray, List.set_cons_zero, List.set_cons_succ]
        refine Pe_put (i := 3) 27 (v := .slice pa m pc) rfl rfl (by kernel_rfl) (by kernel_rfl) (by kernel_rfl) (by kernel_rfl) (fun _ _ _ h => h) (Or.inl ⟨by rfl, fun w' hw' => ?_⟩) hS ?_
        · go_simp
        simp only [Act.put, List.setIfInBounds_toArray, List.set_cons_zero, List.set_cons_succ]
        refine Pe_all (rs := [2]) (by kernel_rfl) (by simp) (fun jj hj => ?_)
        obtain rfl := List.mem_singleton.1 hj
        refine EO_value 26 (v := .slice (some ⟨wr.heap.size, 0, none⟩) 0 0) (w' := wr.drew.alloc (.cells #[] 5)) rfl rfl (by rfl) (by go_simp) (box_adds hS ((Touch.refl _ _).alloc _)) ?_
        simp only [Act.put, List.setIfInBounds_toArray, List.set_cons_zero, List.set_cons_succ]
        obtain ⟨g6, hg6⟩ : ∃ g, g = wr.heap.size := ⟨_, rfl⟩
        obtain ⟨wa, hwa⟩ : ∃ W, W = wr.drew.alloc (.cells #[] 5) := ⟨_, rfl⟩
        have hA : Adds wr wa := by rw [hwa]; exact (adds_dr wr).alloc _
        have F6 := hid (show wa.heap[g6]? = some (.cells #[] 5) by rw [hwa, hg6]; exact heap_alloc_new wr.drew _)
        have HG6 := hid (show w2.heap.size ≤ g6 by rw [hg6]; exact HI.out.1.adds.size)
        rw [← hg6, ← hwa]
        have HPa1 := hid (HI.out.1.more hA)
        replace hS : (fun W : World => W.heap[N5]? = some (.cells #[.bool leaf, .slice a5 kn c5, .slice a7 hl c7, .slice a9 zn c9] 28 (0, 0))) wa := box_adds HBx.out hA
        clear hA hg6 hwa
        obtain ⟨i5, hi5, hz5, hs5, hb5⟩ := info5all
        refine Pe_do (i := 4) (some 28) (by kernel_rfl) rfl rfl rfl (fun K' hK => ?_)
        refine wp_append_lit 30 5 i5 (.int .u8 0) 1 Try.underlying30 hi5 hz5 hs5 hb5 rfl (.tmp 26) (.tmp 27) rfl w2.heap.size g6 HG6.out F6.out rfl pa m pc (S p.bs) rfl (by rw [length_S, HM.out]) (by rw [HPa.out]; exact (HPq.out.adds (HA2.out.trans HPa1.out.adds)).at_) (by rw [HPa.out, HPc.out]; exact HPq.out.non) (one_S _) (by rw [HM.out]; exact HM9.out) (by decide) ?_
        intro a8 c8 wb r1 hA
        have HPa2 := hid (HPa1.out.more hA)
        have HPt := hid (show PT wb w2.heap.size ⟨a8, p.bs, c8⟩ from PT.row (by have := HM.out; subst this; exact r1))
        have hS2 : (fun W : World => W.heap[N5]? = some (.cells #[.bool leaf, .slice a5 kn c5, .slice a7 hl c7, .slice a9 zn c9] 28 (0, 0))) wb := box_adds hS hA
        refine hK _ _ (fun _ => hS2) ?_
        clear hS hA r1 hi5 hz5 hs5 hb5
        have hS := hS2
        clear hS2
        simp only [Act.put, List.setIfInBounds_toArray, List.set_cons_zero, List.set_cons_succ]
        refine Pe_all (rs := [5]) (by kernel_rfl) (by simp) (fun jj hj => ?_)
        obtain rfl := List.mem_singleton.1 hj
        refine EO_value 29 (v := .slice (some ⟨wb.heap.size, 0, none⟩) 1 1) (w' := wb.alloc (.cells #[.slice a8 m c8] 30)) rfl rfl (by rfl) (by go_simp) (box_adds hS ((Touch.refl _ _).alloc _)) ?_
        simp only [Act.put, List.setIfInBounds_toArray, List.set_cons_zero, List.set_cons_succ]
        obtain ⟨g9, hg9⟩ : ∃ g, g = wb.heap.size := ⟨_, rfl⟩
        obtain ⟨wd, hwd⟩ : ∃ W, W = wb.alloc (.cells #[.slice a8 m c8] 30) := ⟨_, rfl⟩
        have hA : Adds wb wd := by rw [hwd]; exact (Touch.refl _ _).alloc _
        have F9 := hid (show wd.heap[g9]? = some (.cells #[.slice a8 m c8] 30) by rw [hwd, hg9]; exact heap_alloc_new wb _)
        rw [← hg9, ← hwd]
        have HPa3 := hid (HPa2.out.more hA)
        have HPt3 := hid (HPt.out.adds hA)
        replace hS : (fun W : World => W.heap[N5]? = some (.cells #[.bool leaf, .slice a5 kn c5, .slice a7 hl c7, .slice a9 zn c9] 28 (0, 0))) wd := box_adds hS hA
        clear hA hg9 hwd
        obtain ⟨i5, hi5, hz5, hs5, hb5⟩ := infoEB
        refine Pe_do (i := 6) (some 30) (by kernel_rfl) rfl rfl rfl (fun K' hK => ?_)
        refine wp_append_own _ (.tmp 25) (.tmp 29) 23 rfl w2.heap.size 30 i5 (.slice none 0 0) 1 24 Try.underlying23 hi5 hz5 hs5 hb5 rfl (by decide) (.slice a7 hl c7) hl (hs.map PV) rfl (by have q := HPa3.out.own.vals; have e := HHl.out; subst e; exact q) ⟨g9, 0, none⟩ 1 1 [.slice a8 m c8] rfl rfl (fun j y hj => by
          match j, hj with
          | 0, hj => obtain rfl := Option.some.inj hj; rw [Addr.add_mid]; exact cellOf F9.out 0) (fun y hy => by rw [List.mem_singleton.1 hy]; rfl) (by unfold maxLen; have := HHl9.out; omega) (by have := HHl9.out; omega) HPa3.out.adds.size ?_
        intro v9 w9 r1 r2 _
        have r2' : Touch (fun j => (Value.slice a7 hl c7).ownBlock = some j) wd w9 := ⟨r2.os, r2.tape, r2.output, r2.size, fun k hk hne => r2.block k hk (fun c => hne c.symm)⟩
        obtain ⟨b7, d7, hv9, hbx9, hpz⟩ := HPa3.out.value (y := ⟨a8, p.bs, c8⟩) HPt3.out (v' := v9) (by have e := HHl.out; have e2 := HM.out; subst e; subst e2; exact r1) (by have e := HHl.out; subst e; exact r2')
        have HPz := hid hpz
        have e9 : v9 = .slice b7 (hl + 1) d7 := by rw [hv9, HHl.out]
        clear hv9
        subst e9
        have HBx9 := hid (show w9.heap[N5]? = some (.cells #[.bool leaf, .slice a5 kn c5, .slice a7 hl c7, .slice a9 zn c9] 28 (0, 0)) by rw [HHl.out, HKn.out, HZn.out]; exact hbx9)
        refine hK _ _ (fun _ => HBx9.out) ?_
        clear hS r1 r2 r2' hpz hbx9 hi5 hz5 hs5 hb5
        have hS : (fun W : World => W.heap[N5]? = some (.cells #[.bool leaf, .slice a5 kn c5, .slice a7 hl c7, .slice a9 zn c9] 28 (0, 0))) w9 := HBx9.out
        simp only [Act.put, List.setIfInBounds_toArray, List.set_cons_zero, List.set_cons_succ]
        refine Pe_put (i := 7) 31 (v := .pointer (some ⟨N5, 2, none⟩)) rfl rfl (by kernel_rfl) (by kernel_rfl) (by kernel_rfl) (by kernel_rfl) (fun _ _ _ h => h) (Or.inl ⟨by rfl, fun w' hw' => ?_⟩) hS ?_
        · go_simp
        simp only [Act.put, List.setIfInBounds_toArray, List.set_cons_zero, List.set_cons_succ]
        have q1 := box_free HBx9.out 2
        have q3 := cellOf HBx9.out 2
        refine Pe_do (i := 8) none (by kernel_rfl) rfl rfl rfl (fun K' hK => ?_)
        clear hS
        go_simp
        refine hK undef _ (fun h => absurd rfl h) (Pe_done (by kernel_rfl) ?_ _)
        clear q1 q3
        simp only [Act.put]
        have v9 := HV9.out
        go_wp2
        go_roundw
        case rel => exact ⟨i + 1, b7, d7, hs ++ [⟨a8, p.bs, c8⟩], by omega, by go_num, HPz.out, by rw [List.map_append, HI.out.2, HBs.out]; rfl⟩
        case measure => simp [intOf]; omega
      · obtain rfl : i = vn := by omega
        have hlz : ¬ (i : Int) < (i : Int) := by omega
        have HZ6 := hid (box_adds HB1.out HI.out.1.adds)
        obtain ⟨hl, hhl⟩ : ∃ n, n = hs.length := ⟨_, rfl⟩
        have HBx := hid (show wr.heap[N5]? = some (.cells #[.bool leaf, .slice a5 kn c5, .slice a7 hl c7, .slice a9 zn c9] 28 (0, 0)) by rw [hhl, HKn.out, HZn.out]; exact HI.out.1.box)
        have HHl := hid hhl
        clear hhl
        go_wp2_with (first
          | (refine wpList_load_row rfl 28 _ rfl N5 rfl 28 _ _ _ HBx.out Try.underlying28 rfl (info4 _ _ _ _) ?_)
          | (refine wpList_store_row rfl 28 _ _ rfl N1 #[.bool leaf, .slice a5 kn c5, .slice a7 hl c7, .slice a9 zn c9] rfl rfl 28 _ HZ6.out (info4 _ _ _ _) rfl (one4 _ _ _ _ _ _ _ _ _ _) ?_))
        refine bodyPost_ret (results_n1 rfl _ _ N1 _ rfl (setRow_heap wr N1 _ _ 28 _ HZ6.out) rfl) rfl ?_
        have hA7 : Adds w (wr.setRow N1 #[.bool leaf, .slice a5 kn c5, .slice a7 hl c7, .slice a9 zn c9]) := Touch.setRow (T := fun _ => False) (HA2.out.trans HI.out.1.adds) (fun c => absurd c (by have := HL.out; omega)) _
        refine ⟨⟨leaf, a5, c5, ks, ⟨a7, c7, hs⟩, a9, c9, zs⟩, ?_, ?_, ?_, hA7⟩
        · have e1 := HHl.out
          have e2 := HKn.out
          have e3 := HZn.out
          subst e1 e2 e3
          rfl
        · show (⟨leaf, ks, hs.map (·.bs), zs⟩ : N.Nd) = ⟨leaf, ks, g.bs, zs⟩
          rw [HI.out.2, List.take_of_length_le (by rw [Pl.bs, List.length_map, HVn.out]; exact Nat.le_refl _)]
        · have hT : Touch (fun j => j = N1) wr (wr.setRow N1 #[.bool leaf, .slice a5 kn c5, .slice a7 hl c7, .slice a9 zn c9]) := Touch.setRow (T := fun j => j = N1) (Touch.refl _ _) (fun _ => rfl) _
          have q := HI.out.1.own
          refine NOwn.lower ⟨row_touch q.keys hT (fun j hj c => row_ne q.keys HZ6.out (by decide) hj c), row_touch q.vals hT (fun j hj c => row_ne q.vals HZ6.out (by decide) hj c), fun p hp => (q.each p hp).touch hT (fun k hk cs fr e => ?_), row_touch q.kids hT (fun j hj c => row_ne q.kids HZ6.out (by decide) hj c)⟩ HA2.out.size
          subst hk
          have := HZ6.out
          rw [this] at e
          injection e with e1
          injection e1 with _ e2 _
          exact absurd e2 (by decide)
end Go.Proofs.Ytplppnngmlljnaa

/- A cell taken out. -/
namespace Go.Proofs.Ytplppnngmlljnaa
open Go.RowKit

/-- How great a node is. -/
structure N.Bd (m : Nat) (n : N.Nd) : Prop where
  k : n.keys.length ≤ m
  v : n.vals.length ≤ m
  i : n.kids.length ≤ m
  kl : ∀ b ∈ n.keys, b.length ≤ 1000
  vl : ∀ b ∈ n.vals, b.length ≤ 1000
theorem N.Bd.mono {m m' : Nat} {n : N.Nd} (h : N.Bd m n) (hm : m ≤ m') : N.Bd m' n := ⟨Nat.le_trans h.k hm, Nat.le_trans h.v hm, Nat.le_trans h.i hm, h.kl, h.vl⟩
theorem N.Bd.ns {m : Nat} {x : NM} (h : N.Bd m x.nd) (hm : m ≤ 1000) : NS x := by
  have e : x.v.bs.length = x.v.l.length := List.length_map _
  exact ⟨Nat.le_trans h.k hm, by rw [← e]; exact Nat.le_trans h.v hm, Nat.le_trans h.i hm, h.kl, fun p hp => h.vl p.bs (List.mem_map.2 ⟨p, hp, rfl⟩)⟩
theorem bd_mid {α : Type} {l l' : List α} {i j m m' : Nat} (h : l.length ≤ m) (h' : l'.length ≤ m') (hij : i ≤ j) : (l.take i ++ (l' ++ l.drop j)).length ≤ m + m' := by
  rw [List.length_append, List.length_append, List.length_take, List.length_drop]; omega
theorem bd_mem {α : Type} {l l' : List α} {i j : Nat} {P : α → Prop} (h : ∀ x ∈ l, P x) (h' : ∀ x ∈ l', P x) : ∀ x ∈ l.take i ++ (l' ++ l.drop j), P x := fun x hx => by
  rcases List.mem_append.1 hx with hx | hx
  · exact h x (List.mem_of_mem_take hx)
  · rcases List.mem_append.1 hx with hx | hx
    · exact h' x hx
    · exact h x (List.mem_of_mem_drop hx)
theorem N.Bd.change {m m' i j : Nat} {n y : N.Nd} (h : N.Bd m n) (hy : N.Bd m' y) (hij : i ≤ j) : N.Bd (m + m') (N.change n i j y) := by
  refine ⟨bd_mid h.k hy.k hij, ?_, ?_, bd_mem h.kl hy.kl, ?_⟩
  · show (if n.leaf then _ else []).length ≤ _
    split
    · exact bd_mid h.v hy.v hij
    · exact Nat.zero_le _
  · show (if n.leaf then [] else _).length ≤ _
    split
    · exact Nat.zero_le _
    · exact bd_mid h.i hy.i hij
  · show ∀ b ∈ (if n.leaf then _ else []), _
    split
    · exact bd_mem h.vl hy.vl
    · intro b hb; cases hb
theorem N.Bd.nil : N.Bd 0 N.nil := ⟨Nat.le_refl _, Nat.le_refl _, Nat.le_refl _, fun b hb => (by cases hb), fun b hb => (by cases hb)⟩
theorem N.Bd.first {m : Nat} {n : N.Nd} (h : N.Bd m n) : N.Bd m (N.first n) := by
  unfold N.first
  split
  · rename_i hc
    refine ⟨?_, h.v, h.i, fun b hb => ?_, h.vl⟩
    · show ([] :: n.keys.tail).length ≤ m
      rw [List.length_cons, List.length_tail]
      have := h.k
      omega
    · rcases List.mem_cons.1 hb with rfl | hb
      · exact Nat.zero_le _
      · exact h.kl b (List.mem_of_mem_tail hb)
  · exact h
theorem N.Bd.without {m i j : Nat} {n : N.Nd} (h : N.Bd m n) (hij : i ≤ j) : N.Bd m (N.without n i j) := by
  have := h.change N.Bd.nil hij
  exact this.first
theorem N.Bd.told {m : Nat} {n : N.Nd} (h : N.Bd m n) : N.Bd m (N.told n).1 := by
  unfold N.told
  split
  · exact h
  · exact N.Bd.nil.mono (Nat.zero_le _)
theorem PWhole.op {w : World} {x : NM} {e : Ending} {w' : World} (h : PWhole w x e w') {B : Nat} (ho : NOwn w' B x) : ∃ leaf ka kc ks va vc, ∃ hs : List Part, ∃ ia ic zs, e = .returned (.tuple #[.agg #[.bool leaf, .slice ka ks.length kc, .slice va hs.length vc, .slice ia zs.length ic], .int .i64 ((N.told x.nd).2 : Int)]) ∧ Hid ((⟨leaf, ks, hs.map (·.bs), zs⟩ : N.Nd) = (N.told x.nd).1 ∧ NOwn w' B ⟨leaf, ka, kc, ks, ⟨va, vc, hs⟩, ia, ic, zs⟩ ∧ Adds w w') := by
  obtain ⟨rfl, hA⟩ := h
  by_cases hr : N.right x.nd = true
  · rw [if_pos hr]
    exact ⟨x.leaf, x.ka, x.kc, x.ks, x.v.a, x.v.cap, x.v.l, x.ia, x.ic, x.is, rfl, by rw [N.told, if_pos hr]; rfl, ho, hA.out⟩
  · rw [if_neg hr]
    exact ⟨false, none, 0, [], none, 0, [], none, 0, [], rfl, by rw [N.told, if_neg hr]; rfl, NOwn.none _ _, hA.out⟩
/-- whole, of what a call made. -/
theorem whole_made {w1 w2 : World} {n : N.Nd} {leaf : Bool} {ka : Option Addr} {kc : Nat} {ks : List (List UInt8)} {va : Option Addr} {vc : Nat} {hs : List Part} {ia : Option Addr} {ic : Nat} {zs : List Int} {B : Nat} (hz : (⟨leaf, ks, hs.map (·.bs), zs⟩ : N.Nd) = n) (ho : NOwn w2 B ⟨leaf, ka, kc, ks, ⟨va, vc, hs⟩, ia, ic, zs⟩) (hb : N.Bd 1000 n) (hB : w1.heap.size ≤ B) :
    Calls Try.prog 50 #[.agg #[.bool leaf, .slice ka ks.length kc, .slice va hs.length vc, .slice ia zs.length ic]] w2 (fun e w' => ∃ leaf ka kc ks va vc, ∃ hs : List Part, ∃ ia ic zs, e = .returned (.tuple #[.agg #[.bool leaf, .slice ka ks.length kc, .slice va hs.length vc, .slice ia zs.length ic], .int .i64 ((N.told n).2 : Int)]) ∧ Hid ((⟨leaf, ks, hs.map (·.bs), zs⟩ : N.Nd) = (N.told n).1 ∧ NOwn w' w1.heap.size ⟨leaf, ka, kc, ks, ⟨va, vc, hs⟩, ia, ic, zs⟩ ∧ Adds w2 w')) := by
  have q := nwhole_any ⟨leaf, ka, kc, ks, ⟨va, vc, hs⟩, ia, ic, zs⟩ w2 ho.nq (N.Bd.ns (m := 1000) (by rw [show NM.nd ⟨leaf, ka, kc, ks, ⟨va, vc, hs⟩, ia, ic, zs⟩ = n from hz]; exact hb) (Nat.le_refl _))
  refine q.mono (fun e w' h => ?_)
  have h2 := PWhole.op h ((ho.lower hB).adds h.2.out)
  rw [show NM.nd ⟨leaf, ka, kc, ks, ⟨va, vc, hs⟩, ia, ic, zs⟩ = n from hz] at h2
  exact h2
end Go.Proofs.Ytplppnngmlljnaa
