/- Texts put together: NWhole, NCold. -/
import Derived.Test.YtplppnngmlljnaaQ10
import Derived.Test.YtplppnngmlljnaaQ11
import Derived.Test.YtplppnngmlljnaaQ04
/- A node that may be, or none. -/
namespace Go.Proofs.Ytplppnngmlljnaa
open Go.RowKit

/-- Bytes of one's own: in a block of bytes, and they may be turned. -/
structure PT (w : World) (B : Nat) (p : Part) : Prop where
  q : PQ w (fun k => B ≤ k ∧ ∃ cs fr, w.heap[k]? = some (Obj.cells cs 5 fr)) p
  fz : ∀ j, j < p.bs.length → ∀ b o, p.a = some ⟨b, o, none⟩ → w.frozen? ⟨b, o + j, none⟩ = false
theorem PT.lower {w : World} {B B' : Nat} {p : Part} (h : PT w B p) (hb : B' ≤ B) : PT w B' p := ⟨h.q.mono (fun _ _ hk => ⟨Nat.le_trans hb hk.1, hk.2⟩), h.fz⟩
theorem PT.touch {w w' : World} {T : Nat → Prop} {B : Nat} {p : Part} (h : PT w B p) (hT : Touch T w w') (hn : ∀ k, T k → ∀ cs fr, w.heap[k]? ≠ some (Obj.cells cs 5 fr)) : PT w' B p := by
  have hsame : ∀ k, (∃ cs fr, w.heap[k]? = some (Obj.cells cs 5 fr)) → w'.heap[k]? = w.heap[k]? := fun k hk => by
    obtain ⟨cs, fr, e⟩ := hk
    exact hT.block k (Array.getElem?_eq_some_iff.1 e).1 (fun c => hn k c cs fr e)
  refine ⟨⟨fun j u hj => ?_, h.q.non⟩, fun j hj b o e => ?_⟩
  · obtain ⟨b, o, e, hq, hc⟩ := h.q.at_ j u hj
    have hs := hsame b hq.2
    exact ⟨b, o, e, ⟨hq.1, by rw [hs]; exact hq.2⟩, by rw [World.cell?_of_block (w := w) hs]; exact hc⟩
  · obtain ⟨b', o', e', hq, _⟩ := h.q.at_ j (B8 (p.bs[j]'hj)) (by rw [S_get, List.getElem?_eq_getElem hj]; rfl)
    rw [e] at e'
    injection e' with e1
    injection e1 with e2 e3 _
    subst e2
    have hs := hsame b hq.2
    rw [← h.fz j hj b o e]
    unfold World.frozen?
    rw [hs]
theorem PT.adds {w w' : World} {B : Nat} {p : Part} (h : PT w B p) (hA : Adds w w') : PT w' B p := h.touch hA (fun _ c => c.elim)
/-- A node of one's own: each part in a row of its own. -/
structure NOwn (w : World) (B : Nat) (z : NM) : Prop where
  keys : w.ownsRow B 9 1 z.kv z.ks.length (Ss z.ks)
  vals : w.ownsRow B 30 1 z.vv z.v.l.length (z.v.l.map PV)
  each : ∀ p ∈ z.v.l, PT w B p
  kids : w.ownsRow B 3 1 z.iv z.is.length (Is z.is)
theorem row_q {w : World} {B : Nat} {e : TypeId} {a : Option Addr} {n m cap : Nat} {xs : List Value} (h : w.ownsRow B e 1 (.slice a m cap) n xs) : n ≤ cap ∧ (a = none → cap = 0) ∧ CQ w (fun k => B ≤ k) a xs := by
  obtain ⟨a', cap', e', h1, h2, h3⟩ := own_cq h
  injection e' with e1 e2 e3
  subst e1
  subst e3
  refine ⟨h1, h2, h3.mono (fun k _ hk => ?_)⟩
  rcases h.2 with ⟨q, _⟩ | ⟨g, cap2, cur, q, hb, _⟩
  · rw [q] at hk; cases hk
  · rw [q] at hk; cases hk; exact hb
theorem PT.row {w : World} {B : Nat} {p : Part} (h : w.ownsRow B 5 1 (PV p) p.bs.length (S p.bs)) : PT w B p := by
  rcases h.2 with ⟨q, h0⟩ | ⟨g, cap2, cur, q, hb, hg, _⟩
  · have hbs : p.bs = [] := List.eq_nil_of_length_eq_zero h0
    injection q with q1 _ q3
    exact ⟨⟨by rw [hbs]; exact CQ.nil _ _ _, fun _ => q3⟩, fun j hj => by rw [hbs] at hj; cases hj⟩
  · injection q with q1 q2 q3
    obtain ⟨h1, h2, h3⟩ := row_q h
    refine ⟨⟨fun j u hj => ?_, h2⟩, fun j hj b o e => ?_⟩
    · obtain ⟨b, o, e, hq, hc⟩ := h3 j u hj
      rw [q1] at e
      injection e with e1
      injection e1 with e2 e3 _
      subst e2
      exact ⟨g, o, by rw [q1, e3], ⟨hb, cur, (0, 0), hg⟩, hc⟩
    · rw [q1] at e
      injection e with e1
      injection e1 with e2 _ _
      subst e2
      simp [World.frozen?, hg]
theorem NOwn.nq {w : World} {B : Nat} {z : NM} (h : NOwn w B z) : NQ w (fun k => B ≤ k) z := by
  obtain ⟨k1, k2, k3⟩ := row_q h.keys
  obtain ⟨v1, v2, v3⟩ := row_q h.vals
  obtain ⟨i1, i2, i3⟩ := row_q h.kids
  exact ⟨k3, k2, k1, ⟨v3, v2, fun p hp => (h.each p hp).q.mono (fun _ _ hk => hk.1)⟩, v1, i3, i2, i1⟩
theorem row_lower {w : World} {B B' : Nat} {e : TypeId} {v : Value} {n : Nat} {xs : List Value} (h : w.ownsRow B e 1 v n xs) (hb : B' ≤ B) : w.ownsRow B' e 1 v n xs := ⟨h.1, h.2.imp id (fun ⟨g, cap, cur, e, hb', r⟩ => ⟨g, cap, cur, e, Nat.le_trans hb hb', r⟩)⟩
theorem NOwn.lower {w : World} {B B' : Nat} {z : NM} (h : NOwn w B z) (hb : B' ≤ B) : NOwn w B' z := ⟨row_lower h.keys hb, row_lower h.vals hb, fun p hp => (h.each p hp).lower hb, row_lower h.kids hb⟩
theorem NOwn.adds {w w' : World} {B : Nat} {z : NM} (h : NOwn w B z) (hA : Adds w w') : NOwn w' B z := ⟨row_touch h.keys hA (fun _ _ => id), row_touch h.vals hA (fun _ _ => id), fun p hp => (h.each p hp).adds hA, row_touch h.kids hA (fun _ _ => id)⟩
/-- A node without anything. -/
def NM.none : NM := ⟨false, .none, 0, [], ⟨.none, 0, []⟩, .none, 0, []⟩
theorem NOwn.none (w : World) (B : Nat) : NOwn w B NM.none := ⟨World.ownsRow_nil _ _ _ _, World.ownsRow_nil _ _ _ _, fun p hp => (by cases hp), World.ownsRow_nil _ _ _ _⟩
def PNode (w : World) (n : N.Nd) (e : Ending) (w' : World) : Prop := ∃ z : NM, e = .returned z.val ∧ Hid (z.nd = n ∧ NOwn w' w.heap.size z ∧ Adds w w')
def PTnode (w : World) (R : N.Nd × Nat) (e : Ending) (w' : World) : Prop := ∃ z : NM, e = .returned (.tuple #[z.val, .int .i64 (R.2 : Int)]) ∧ Hid (z.nd = R.1 ∧ NOwn w' w.heap.size z ∧ Adds w w')
/-- What whole tells: the node that was handed in, or none. -/
def PWhole (w : World) (x : NM) (e : Ending) (w' : World) : Prop := e = .returned (.tuple #[if N.right x.nd = true then x.val else NM.none.val, .int .i64 ((N.told x.nd).2 : Int)]) ∧ Hid (Adds w w')
/-- The zero of a node: the block of a result. -/
abbrev NZ : Obj := .cells #[.bool false, .slice none 0 0, .slice none 0 0, .slice none 0 0] 28
theorem box_cells {w : World} {N0 : Nat} {a b c d : Value} {t : TypeId} (hb : w.heap[N0]? = some (.cells #[a, b, c, d] t)) : w.cell? ⟨N0, 0, .none⟩ = some a ∧ w.cell? ⟨N0, 1, .none⟩ = some b ∧ w.cell? ⟨N0, 2, .none⟩ = some c ∧ w.cell? ⟨N0, 3, .none⟩ = some d :=
  ⟨by rw [cellOf hb]; rfl, by rw [cellOf hb]; rfl, by rw [cellOf hb]; rfl, by rw [cellOf hb]; rfl⟩
theorem box_free {w : World} {N0 : Nat} {cs : Array Value} {t : TypeId} (hb : w.heap[N0]? = some (.cells cs t)) (j : Nat) : w.frozen? ⟨N0, j, .none⟩ = false := frozen_of_row w N0 j cs t hb
theorem box_adds {w w' : World} {N0 : Nat} {o : Obj} (hb : w.heap[N0]? = some o) (hA : Adds w w') : w'.heap[N0]? = some o := by
  rw [hA.block N0 (Array.getElem?_eq_some_iff.1 hb).1 id]; exact hb
/-- A result that lies in a block. -/
theorem results_n1 {fn : Func} {p : Tmp} (h : fn.results = #[.cell p 28]) (tmps : Array Value) (w : World) (g : Nat) (cs : Array Value) (hp : tmps.getD p undef = .pointer (some ⟨g, 0, .none⟩)) (hg : w.heap[g]? = some (.cells cs 28 (0, 0))) (hs : cs.size = 4) :
    (results fn tmps).run Try.prog w = .ok (.agg cs) w :=
  results_cell_row h tmps w g 28 cs (0, 0) _ hp hg Try.underlying28 rfl (by rw [infoN.out, hs])
theorem load_n (w : World) (g : Nat) (cs : Array Value) (hg : w.heap[g]? = some (.cells cs 28 (0, 0))) (hs : cs.size = 4) : (loadVar 28 ⟨g, 0, .none⟩).run Try.prog w = .ok (.agg cs) w :=
  run_loadVar_row w g 28 28 cs (0, 0) _ hg Try.underlying28 rfl (by rw [infoN.out, hs])
theorem results_n2 {fn : Func} {p u : Tmp} (h : fn.results = #[.cell p 28, .tmp u]) (tmps : Array Value) (w : World) (g : Nat) (cs : Array Value) (hp : tmps.getD p undef = .pointer (some ⟨g, 0, .none⟩)) (hg : w.heap[g]? = some (.cells cs 28 (0, 0))) (hs : cs.size = 4) :
    (results fn tmps).run Try.prog w = .ok (.tuple #[.agg cs, tmps.getD u undef]) w := by
  have q : (asAddr (.pointer (some ⟨g, 0, .none⟩))).run Try.prog w = .ok ⟨g, 0, .none⟩ w := by simp [asAddr]
  rw [results_cell_tmp h, hp, q]
  simp only [Result.andThen, load_n w g cs hg hs]
theorem four (a b c d : Value) : (#[a, b, c, d] : Array Value).size = 4 := rfl
theorem one4 (a : Bool) (b d f : Option Addr) (b1 b2 d1 d2 f1 f2 : Nat) : (#[Value.bool a, .slice b b1 b2, .slice d d1 d2, .slice f f1 f2] : Array Value).all (·.oneCell') = true := all_oneCell_toArray (cs := [Value.bool a, .slice b b1 b2, .slice d d1 d2, .slice f f1 f2]) (by intro v hv; simp only [List.mem_cons, List.not_mem_nil, or_false] at hv; rcases hv with rfl | rfl | rfl | rfl <;> rfl)
theorem info4 (a b c d : Value) : (Try.prog.info? 28).map (·.size) = some (#[a, b, c, d] : Array Value).size := infoN.out
set_option maxRecDepth 100000 in
set_option maxHeartbeats 2000000 in
theorem nwhole_any (x : NM) (w : World) {Q : Nat → Prop} (h : NQ w Q x) (hs : NS x) : Calls Try.prog 50 #[x.val] w (PWhole w x) := by
  obtain ⟨r, hr⟩ : ∃ r, r = N.right x.nd := ⟨_, rfl⟩
  have HC := hid (fun w' (hA : Adds w w') => show Calls Try.prog 15 #[x.val] w' (Adding (.bool r) w') by rw [hr]; exact nright_any x w' (h.adds hA) hs)
  unfold PWhole N.told
  rw [← hr]
  clear h hs hr
  obtain ⟨N0, hN0⟩ : ∃ N0, N0 = w.heap.size := ⟨_, rfl⟩
  obtain ⟨w2, hw2⟩ : ∃ w2, w2 = (w.alloc (.cells #[.bool x.leaf, .slice x.ka x.ks.length x.kc, .slice x.v.a x.v.l.length x.v.cap, .slice x.ia x.is.length x.ic] 28)).alloc NZ := ⟨_, rfl⟩
  have HA2 := hid (show Adds w w2 by rw [hw2]; exact ((Touch.refl _ w).alloc _).alloc _)
  have HB0 := hid (show w2.heap[N0]? = some (.cells #[.bool x.leaf, .slice x.ka x.ks.length x.kc, .slice x.v.a x.v.l.length x.v.cap, .slice x.ia x.is.length x.ic] 28) by rw [hw2, hN0]; exact box_adds (heap_alloc_new w _) ((Touch.refl _ _).alloc _))
  have HB1 := hid (show w2.heap[N0 + 1]? = some NZ by rw [hw2, hN0, ← show (w.alloc (.cells #[.bool x.leaf, .slice x.ka x.ks.length x.kc, .slice x.v.a x.v.l.length x.v.cap, .slice x.ia x.is.length x.ic] 28)).heap.size = w.heap.size + 1 by simp]; exact heap_alloc_new _ _)
  obtain ⟨N1, hN1⟩ : ∃ N1, N1 = N0 + 1 := ⟨_, rfl⟩
  rw [← hN1] at HB1
  have HNe := hid (show N0 ≠ N1 by omega)
  have HL := hid (show w.heap.size ≤ N1 by omega)
  unfold NM.val NM.kv NM.vv NM.iv at *
  go_enter Try.func50, Try.ntmps50
  go_upto_region 1 with fail
  rw [← hw2, ← hN0, ← hN1]
  clear hw2 hN0 hN1
  obtain ⟨c0, c1, c2, c3⟩ := box_cells HB0.out
  cases r with
  | false =>
    go_upto_region 2 with (go_at_call 15; refine (HC.out _ HA2.out).mono ?_; rintro e w3 ⟨rfl, hA3⟩; have H3 := hid hA3; clear hA3)
    clear c0 c1 c2 c3
    have HB3 := hid (box_adds HB1.out H3.out)
    go_wp2_with (refine wpList_store_row rfl 28 _ _ rfl N1 #[.bool false, .slice .none 0 0, .slice .none 0 0, .slice .none 0 0] rfl rfl 28 _ HB3.out (info4 _ _ _ _) rfl (one4 _ _ _ _ _ _ _ _ _ _) ?_)
    refine bodyPost_ret (results_n2 rfl _ _ N1 _ rfl (setRow_heap w3 N1 _ _ 28 _ HB3.out) rfl) rfl ?_
    exact ⟨rfl, Touch.setRow (T := fun _ => False) (HA2.out.trans H3.out) (fun h => absurd h (by have := HL.out; omega)) _⟩
  | true =>
    go_upto_region 3 with (go_at_call 15; refine (HC.out _ HA2.out).mono ?_; rintro e w3 ⟨rfl, hA3⟩; have H3 := hid hA3; clear hA3)
    clear c0 c1 c2 c3
    have HB3 := hid (box_adds HB1.out H3.out)
    obtain ⟨c0, c1, c2, c3⟩ := box_cells (box_adds HB0.out H3.out)
    go_wp2_with (refine wpList_store_row rfl 28 _ _ rfl N1 #[.bool x.leaf, .slice x.ka x.ks.length x.kc, .slice x.v.a x.v.l.length x.v.cap, .slice x.ia x.is.length x.ic] rfl rfl 28 _ HB3.out (info4 _ _ _ _) rfl (one4 _ _ _ _ _ _ _ _ _ _) ?_)
    refine bodyPost_ret (results_n2 rfl _ _ N1 _ rfl (setRow_heap w3 N1 _ _ 28 _ HB3.out) rfl) rfl ?_
    exact ⟨rfl, Touch.setRow (T := fun _ => False) (HA2.out.trans H3.out) (fun h => absurd h (by have := HL.out; omega)) _⟩
end Go.Proofs.Ytplppnngmlljnaa

/- Rows without bytes: an append leaves none there. -/
namespace Go.Proofs.Ytplppnngmlljnaa
open Go.RowKit

/-- No byte. -/
def NoB (u : Value) : Prop := ∀ c, u ≠ .int .u8 c
theorem cold_cells {w : World} {g : Nat} {cs : Array Value} {t : TypeId} {fr : Nat × Nat} (hb : w.heap[g]? = some (.cells cs t fr)) (h : ∀ u ∈ cs, NoB u) : Cold w g := fun j c hc => by
  rw [cellOf hb j] at hc
  exact h _ (Array.mem_of_getElem? hc) c rfl
theorem cold_mem {w : World} {g : Nat} {cs : Array Value} {t : TypeId} {fr : Nat × Nat} (hb : w.heap[g]? = some (.cells cs t fr)) (h : Cold w g) : ∀ u ∈ cs, NoB u := fun u hu c e => by
  obtain ⟨j, hj⟩ := Array.mem_iff_getElem?.1 hu
  exact h j c (by rw [cellOf hb j, hj, e])
theorem zero_mem {z u : Value} {n : Nat} (h : u ∈ Builtin.zeroCells #[z] n) : u = z := by
  unfold Builtin.zeroCells at h
  simp at h
  obtain ⟨i, _, e⟩ := h
  rw [Nat.mod_one] at e
  exact e.symm
theorem append_cold {w : World} (t ty e : TypeId) (i : TypeInfo) (z : Value) (ht : Try.prog.underlying t = some (.slice e)) (hi : Try.prog.info? e = some i) (hz : i.zero = some z) (hs : i.size = 1) (hzc : z.cells = #[z]) (hzb : NoB z) {B : Nat} {v : Value} {n : Nat} {xs : List Value} (hown : w.ownsRow B e 1 v n xs) (hcold : ∀ g, v.ownBlock = some g → Cold w g) (g : Nat) (u : Value) (hc : w.cell? ⟨g, 0, none⟩ = some u) (hu1 : u.oneCell' = true) (hub : NoB u) (hn : n ≤ 1000000) (hby : i.bytes ≤ 100) {v' : Value} {w' : World}
    (hrun : (Builtin.append_ #[t, t] ty #[v, .slice (some ⟨g, 0, none⟩) 1 1]).run Try.prog w = .ok v' w') : ∀ g', v'.ownBlock = some g' → Cold w' g' := by
  have hnews : ∀ (j : Nat) (x : Value), [u][j]? = some x → w.cell? ((⟨g, 0, none⟩ : Addr).add j) = some x := fun j x hj => by
    match j, hj with
    | 0, hj => obtain rfl : u = x := by simpa using hj
               rw [Addr.add_mid]; exact hc
  rcases hown.2 with ⟨rfl, h0⟩ | ⟨g0, cap, cur, rfl, hb, hg, h1, h2, h3, h4⟩
  · have hr := run_append_nil (P := Try.prog) w t ty e i z ht hi hz ⟨g, 0, none⟩ 1 1 [u] (by rw [hs]; rfl) hnews (by decide) (by decide) (by omega)
    rw [hr] at hrun
    injection hrun with e1 e2
    subst e1
    subst e2
    intro g' hg'
    have e3 : w.heap.size = g' := Option.some.inj hg'
    subst e3
    refine cold_cells (heap_alloc_new w.drew _) (fun x hx => ?_)
    rw [hzc] at hx
    rcases Array.mem_append.1 hx with hx | hx
    · have : x = u := by simpa using hx
      rw [this]; exact hub
    · rw [zero_mem hx]; exact hzb
  · have hcur := cold_mem hg (hcold g0 rfl)
    by_cases hroom : n + 1 ≤ cap
    · have hr := run_append_room (P := Try.prog) w t ty e i ht hi g0 n cap cur hg ⟨g, 0, none⟩ 1 1 [u] (by rw [hs]; rfl) hnews (fun x hx => by rw [List.mem_singleton.1 hx]; exact hu1) hroom (by rw [hs, h3]; simp; omega)
      rw [hr] at hrun
      injection hrun with e1 e2
      subst e1
      subst e2
      intro g' hg'
      have e3 : g0 = g' := Option.some.inj hg'
      subst e3
      refine cold_cells (setRow_heap w g0 cur _ e _ hg) (fun x hx => ?_)
      rw [List.mem_toArray] at hx
      rcases List.mem_append.1 hx with hx | hx
      · rcases List.mem_append.1 hx with hx | hx
        · exact hcur x (by simpa using List.mem_of_mem_take hx)
        · rw [List.mem_singleton.1 hx]; exact hub
      · exact hcur x (by simpa using List.mem_of_mem_drop hx)
    · have holds : ∀ (j : Nat) (x : Value), xs[j]? = some x → w.cell? ((⟨g0, 0, none⟩ : Addr).add j) = some x := hown.cells (g := g0) rfl
      have hr := run_append_grow (P := Try.prog) w t ty e i z ht hi hz ⟨g0, 0, none⟩ n cap xs (by rw [hs]; exact hown.1) holds ⟨g, 0, none⟩ 1 1 [u] (by rw [hs]; rfl) hnews (by omega) (by omega) (growslice_fits (by omega) (Nat.le_trans (Nat.mul_le_mul (show n + 1 ≤ 1000001 by omega) hby) (by decide)))
      rw [hr] at hrun
      injection hrun with e1 e2
      subst e1
      subst e2
      intro g' hg'
      have e3 : w.heap.size = g' := Option.some.inj hg'
      subst e3
      refine cold_cells (heap_alloc_new w.drew _) (fun x hx => ?_)
      rw [hzc] at hx
      rcases Array.mem_append.1 hx with hx | hx
      · rcases Array.mem_append.1 hx with hx | hx
        · have hx' : x ∈ xs := by simpa using hx
          rw [← h4] at hx'
          exact hcur x (by simpa using List.mem_of_mem_take hx')
        · have : x = u := by simpa using hx
          rw [this]; exact hub
      · rw [zero_mem hx]; exact hzb
/-- The append of one value, as an operation: the row, what it touches, where it lies, and that it has no bytes. -/
theorem wp_append_cold {o : Oper} {a : Act} {w : World} {K : Act → World → Prop} {Q : Exit → Act → World → Prop} (t e : TypeId) (i : TypeInfo) (z : Value) (by_ : Nat) (ht : Try.prog.underlying t = some (.slice e)) (hi : Try.prog.info? e = some i) (hz : i.zero = some z) (hs : i.size = 1) (hb : i.bytes = by_) (hb9 : by_ ≤ 100) (hzc : z.cells = #[z]) (hz1 : z.cells.size = 1) (hzb : NoB z) (s x : Operand)
    (hop : o.op = Op.call { callee := Callee.builtin Builtin.append, args := #[s, x], argTypes := #[t, t] }) (B : Nat) (v : Value) (n : Nat) (xs : List Value) (hsv : a.eval s = v) (hown : w.ownsRow B e 1 v n xs) (hcold : ∀ g, v.ownBlock = some g → Cold w g)
    (g : Nat) (u : Value) (hx : a.eval x = .slice (some ⟨g, 0, none⟩) 1 1) (hc : w.cell? ⟨g, 0, none⟩ = some u) (hu1 : u.oneCell' = true) (hub : NoB u) (hn : n ≤ 1000000) (hB : B ≤ w.heap.size)
    (hK : ∀ v' w', w'.ownsRow B e 1 v' (n + 1) (xs ++ [u]) → Touch (fun j => v.ownBlock = some j) w w' → (∀ j, v'.ownBlock = some j → v.ownBlock = some j ∨ w.heap.size ≤ j) → (∀ g, v'.ownBlock = some g → Cold w' g) → K (a.put o.dst v') w') : Oper.wp Try.prog o a w K Q := by
  obtain ⟨v', w', hrun, r1, r2, _, r4⟩ := run_append_own_at (P := Try.prog) w B t o.type e i z 1 by_ ht hi hz hs hb hz1 (by decide) v n xs hown ⟨g, 0, none⟩ 1 1 [u] rfl (fun j y hj => by
    match j, hj with
    | 0, hj => obtain rfl := Option.some.inj hj; rw [Addr.add_mid]; exact hc) (fun y hy => by rw [List.mem_singleton.1 hy]; exact hu1) (by unfold maxLen; omega) (Nat.le_trans (Nat.mul_le_mul (show n + 1 ≤ 1000001 by omega) hb9) (by decide)) hB
  have hcl := append_cold t o.type e i z ht hi hz hs hzc hzb hown hcold g u hc hu1 hub hn (by rw [hb]; exact hb9) hrun
  unfold Oper.wp
  simp [execOp, hop, resolve, invoke, builtin, hsv, hx, hrun, Result.andThen]
  refine hK v' w' r1 ⟨r2.os, r2.tape, r2.output, r2.size, fun k hk hne => r2.block k hk (fun c => hne c.symm)⟩ (fun j hj => ?_) hcl
  rcases r4 with c | c
  · rw [c] at hj; exact .inl hj
  · rw [c] at hj; cases hj; exact .inr (Nat.le_refl _)
end Go.Proofs.Ytplppnngmlljnaa
