/- Texts put together: NCut, NJoin, NHMath, NHalves. -/
import Derived.Test.YtplppnngmlljnaaQ16
import Derived.Laws.BitsLemmas
/- A node cut in two. -/
namespace Go.Proofs.Ytplppnngmlljnaa
open Go.RowKit

theorem results_n3 {fn : Func} {p q u : Tmp} (h : fn.results = #[.cell p 28, .cell q 28, .tmp u]) (tmps : Array Value) (w : World) (g g' : Nat) (cs cs' : Array Value) (hp : tmps.getD p undef = .pointer (some ⟨g, 0, .none⟩)) (hq : tmps.getD q undef = .pointer (some ⟨g', 0, .none⟩))
    (hg : w.heap[g]? = some (.cells cs 28 (0, 0))) (hs : cs.size = 4) (hg' : w.heap[g']? = some (.cells cs' 28 (0, 0))) (hs' : cs'.size = 4) :
    (results fn tmps).run Try.prog w = .ok (.tuple #[.agg cs, .agg cs', tmps.getD u undef]) w := by
  have hp' : tmps[p]?.getD undef = .pointer (some ⟨g, 0, none⟩) := by simpa using hp
  have hq' : tmps[q]?.getD undef = .pointer (some ⟨g', 0, none⟩) := by simpa using hq
  simp [results, h, hp', hq', asAddr, load_n w g cs hg hs, load_n w g' cs' hg' hs']
/-- The box of a node that was handed in, and the blocks of two results. -/
theorem nopen3 (w : World) (bx : Array Value) : ∃ N0 N1 N2 w3, N0 = w.heap.size ∧ N1 = N0 + 1 ∧ N2 = N1 + 1 ∧ w3 = ((w.alloc (.cells bx 28)).alloc NZ).alloc NZ ∧ Hid (Adds w w3) ∧ Hid (w3.heap[N0]? = some (.cells bx 28)) ∧ Hid (w3.heap[N1]? = some NZ) ∧ Hid (w3.heap[N2]? = some NZ) ∧ Hid (w.heap.size ≤ N1) := by
  obtain ⟨N0, N1, w2, h0, h1, hw2, HA, HB0, HB1, HL⟩ := nopen w bx
  have hz : w2.heap.size = N1 + 1 := by rw [hw2, h1, h0]; simp
  refine ⟨N0, N1, N1 + 1, w2.alloc NZ, h0, h1, rfl, by rw [hw2], HA.out.alloc _, box_adds HB0.out ((Touch.refl _ _).alloc _), box_adds HB1.out ((Touch.refl _ _).alloc _), ?_, HL⟩
  rw [← hz]
  exact heap_alloc_new _ _
/-- A node's blocks lie below a mark. -/
def NLt (C : Nat) (z : NM) : Prop := (∀ j, z.kv.ownBlock = some j → j < C) ∧ (∀ j, z.vv.ownBlock = some j → j < C) ∧ (∀ j, z.iv.ownBlock = some j → j < C) ∧ ∀ p ∈ z.v.l, 0 < p.bs.length → ∀ b o, p.a = some ⟨b, o, none⟩ → b < C
theorem row_blt {w : World} {B : Nat} {e : TypeId} {v : Value} {n : Nat} {xs : List Value} (h : w.ownsRow B e 1 v n xs) : ∀ j, v.ownBlock = some j → j < w.heap.size := fun j hj => by
  obtain ⟨cur, hc⟩ := row_type h hj
  exact (Array.getElem?_eq_some_iff.1 hc).1
theorem NOwn.lt {w : World} {B : Nat} {z : NM} (h : NOwn w B z) : NLt w.heap.size z := ⟨row_blt h.keys, row_blt h.vals, row_blt h.kids, fun p hp h0 b o e => by
  obtain ⟨b', o', e', hq, hc⟩ := (h.each p hp).q.at_ 0 (B8 (p.bs[0]'h0)) (by rw [S_get, List.getElem?_eq_getElem h0]; rfl)
  rw [e] at e'
  injection e' with e1
  injection e1 with e2 e3 _
  subst e2
  obtain ⟨_, cs, fr, hk⟩ := hq
  exact (Array.getElem?_eq_some_iff.1 hk).1⟩
/-- What a cut tells: two nodes, each in memory of its own. -/
def PCutN (w : World) (A B : N.Nd) (er : Nat) (e : Ending) (w' : World) : Prop := ∃ zA zB : NM, e = .returned (.tuple #[zA.val, zB.val, .int .i64 (er : Int)]) ∧ Hid ((zA.nd = A ∧ NOwn w' w.heap.size zA) ∧ (zB.nd = B ∧ NOwn w' w.heap.size zB) ∧ Adds w w' ∧ ∃ C, C ≤ w'.heap.size ∧ ((NLt C zA ∧ NOwn w' C zB) ∨ (NLt C zB ∧ NOwn w' C zA)))
theorem two_store {w w5 : World} {B N1 N2 : Nat} {z : NM} {cs1 cs2 a1 a2 : Array Value} (h : NOwn w5 B z) (h1 : w5.heap[N1]? = some (.cells cs1 28 (0, 0))) (h2 : w5.heap[N2]? = some (.cells cs2 28 (0, 0))) (hne : N1 ≠ N2) (hA : Adds w w5) (hL : w.heap.size ≤ N1) (hL2 : w.heap.size ≤ N2) :
    NOwn ((w5.setRow N1 a1).setRow N2 a2) B z ∧ ((w5.setRow N1 a1).setRow N2 a2).heap[N1]? = some (.cells a1 28 (0, 0)) ∧ ((w5.setRow N1 a1).setRow N2 a2).heap[N2]? = some (.cells a2 28 (0, 0)) ∧ Adds w ((w5.setRow N1 a1).setRow N2 a2) ∧ (w5.setRow N1 a1).heap[N2]? = some (.cells cs2 28 (0, 0)) := by
  have t1 := touch_row w5 N1 a1
  have t2 := touch_row (w5.setRow N1 a1) N2 a2
  have b2 : (w5.setRow N1 a1).heap[N2]? = some (.cells cs2 28 (0, 0)) := by
    rw [t1.block N2 (Array.getElem?_eq_some_iff.1 h2).1 (fun c => hne c.symm)]; exact h2
  have b1 := setRow_heap w5 N1 _ a1 28 _ h1
  refine ⟨(h.touch t1 h1).touch t2 b2, ?_, setRow_heap _ N2 _ a2 28 _ b2, (hA.then t1 (fun j hj e => by omega)).then t2 (fun j hj e => by omega), b2⟩
  rw [t2.block N1 (Array.getElem?_eq_some_iff.1 b1).1 hne]; exact b1
theorem st_keep {w W : World} {N0 N1 : Nat} {bx : Obj} {cs : Array Value} (h : Adds w W ∧ W.heap[N0]? = some bx) (hne : N0 ≠ N1) (hL : w.heap.size ≤ N1) : Adds w (W.setRow N1 cs) ∧ (W.setRow N1 cs).heap[N0]? = some bx :=
  ⟨h.1.then (touch_row W N1 cs) (fun j hj e => by omega), by rw [(touch_row W N1 cs).block N0 (Array.getElem?_eq_some_iff.1 h.2).1 hne]; exact h.2⟩
/-- What lies there once both are stored. -/
def CutE (w : World) (A B : N.Nd) (N1 N2 : Nat) (zA zB : NM) (wx : World) : Prop := wx.heap[N1]? = some (.cells #[.bool zA.leaf, zA.kv, zA.vv, zA.iv] 28 (0, 0)) ∧ wx.heap[N2]? = some (.cells #[.bool zB.leaf, zB.kv, zB.vv, zB.iv] 28 (0, 0)) ∧ (zA.nd = A ∧ NOwn wx w.heap.size zA) ∧ (zB.nd = B ∧ NOwn wx w.heap.size zB) ∧ Adds w wx ∧ ∃ C, C ≤ wx.heap.size ∧ ((NLt C zA ∧ NOwn wx C zB) ∨ (NLt C zB ∧ NOwn wx C zA))
theorem cut_end {w w6 : World} {A B : N.Nd} {N1 N2 : Nat} {zA zB : NM} (ha : zA.nd = A ∧ NOwn w6 w.heap.size zA) (hb : zB.nd = B ∧ NOwn w6 w.heap.size zB) (hA : Adds w w6) (h1 : w6.heap[N1]? = some NZ) (h2 : w6.heap[N2]? = some NZ) (hne : N1 ≠ N2) (hL : w.heap.size ≤ N1) (hL2 : w.heap.size ≤ N2) (hC : ∃ C, C ≤ w6.heap.size ∧ ((NLt C zA ∧ NOwn w6 C zB) ∨ (NLt C zB ∧ NOwn w6 C zA))) :
    CutE w A B N1 N2 zA zB ((w6.setRow N1 #[.bool zA.leaf, zA.kv, zA.vv, zA.iv]).setRow N2 #[.bool zB.leaf, zB.kv, zB.vv, zB.iv]) := by
  have t := fun (C : Nat) (z : NM) (h : NOwn w6 C z) => two_store (a1 := #[.bool zA.leaf, zA.kv, zA.vv, zA.iv]) (a2 := #[.bool zB.leaf, zB.kv, zB.vv, zB.iv]) h h1 h2 hne hA hL hL2
  have q := t _ _ ha.2
  obtain ⟨C, hc, hd⟩ := hC
  exact ⟨q.2.1, q.2.2.1, ⟨ha.1, q.1⟩, ⟨hb.1, (t _ _ hb.2).1⟩, q.2.2.2.1, C, (by show C ≤ _; simp; exact hc), hd.imp (fun h => ⟨h.1, (t _ _ h.2).1⟩) (fun h => ⟨h.1, (t _ _ h.2).1⟩)⟩
theorem cut_a {w w4 w5 w6 : World} {A B : N.Nd} {N1 N2 : Nat} {zA zB : NM} (h4 : Adds w w4) (h5 : zA.nd = A ∧ NOwn w5 w4.heap.size zA ∧ Adds w4 w5) (h6 : zB.nd = B ∧ NOwn w6 w5.heap.size zB ∧ Adds w5 w6) (h1 : w4.heap[N1]? = some NZ) (h2 : w4.heap[N2]? = some NZ) (hne : N1 ≠ N2) (hL : w.heap.size ≤ N1) (hL2 : w.heap.size ≤ N2) :
    CutE w A B N1 N2 zA zB ((w6.setRow N1 #[.bool zA.leaf, zA.kv, zA.vv, zA.iv]).setRow N2 #[.bool zB.leaf, zB.kv, zB.vv, zB.iv]) :=
  cut_end ⟨h5.1, (h5.2.1.adds h6.2.2).lower h4.size⟩ ⟨h6.1, h6.2.1.lower (h4.trans h5.2.2).size⟩ ((h4.trans h5.2.2).trans h6.2.2) (box_adds h1 (h5.2.2.trans h6.2.2)) (box_adds h2 (h5.2.2.trans h6.2.2)) hne hL hL2 ⟨w5.heap.size, h6.2.2.size, .inl ⟨h5.2.1.lt, h6.2.1⟩⟩
set_option maxRecDepth 100000 in
set_option maxHeartbeats 8000000 in
theorem ncut_any (x : NM) (w : World) {Q : Nat → Prop} (hx : NQ w Q x) (hb : N.Bd 900 x.nd) : Calls Try.prog 29 #[x.val] w (PCutN w (N.cutA x.nd) (N.cutB x.nd) (N.cutE x.nd)) := by
  have sx := hb.ns (by decide)
  obtain ⟨N0, N1, N2, w2, hN0, hN1, hN2, hw2, HA2, HB0, HB1, HB2, HL⟩ := nopen3 w #[.bool x.leaf, .slice x.ka x.ks.length x.kc, .slice x.v.a x.v.l.length x.v.cap, .slice x.ia x.is.length x.ic]
  have HNe := hid (show N1 ≠ N2 by omega)
  have HN01 := hid (show N0 ≠ N1 by omega)
  have HN02 := hid (show N0 ≠ N2 by omega)
  have HL2 := hid (show w.heap.size ≤ N2 by have := HL.out; omega)
  obtain ⟨r, hr⟩ : ∃ r, r = N.right x.nd := ⟨_, rfl⟩
  have HC := hid (show Calls Try.prog 15 #[x.val] w2 (Adding (.bool r) w2) by rw [hr]; exact nright_any x w2 (hx.adds HA2.out) sx)
  have HR := hid hr
  have HX := hid hx
  have HSx := hid sx
  have HBd := hid hb
  obtain ⟨kn, hkn⟩ : ∃ kn, kn = x.ks.length := ⟨_, rfl⟩
  have hk9 : kn ≤ 900 := by rw [hkn]; exact hb.k
  have HKn := hid hkn
  have hv : x.val = .agg #[.bool x.leaf, .slice x.ka kn x.kc, .slice x.v.a x.v.l.length x.v.cap, .slice x.ia x.is.length x.ic] := by rw [hkn]
  have HV := hid hv
  rw [hv] at HC ⊢
  rw [← hkn] at hw2 HB0
  clear hx sx hb hr hkn hv
  go_enter Try.func29, Try.ntmps29
  go_upto_region 1 with fail
  rw [← hw2, ← hN0, ← hN1, ← hN2]
  clear hw2 hN0 hN1 hN2
  obtain ⟨c0, c1, c2, c3⟩ := box_cells HB0.out
  cases r with
  | false =>
    have hE : N.cutE x.nd = 22 := by unfold N.cutE; rw [← HR.out]; rfl
    have HE := hid (show N.cutE x.nd = 22 ∧ N.cutA x.nd = N.nil ∧ N.cutB x.nd = N.nil from ⟨hE, by unfold N.cutA; rw [if_neg (by rw [hE]; decide)], by unfold N.cutB; rw [if_neg (by rw [hE]; decide)]⟩)
    clear hE
    go_upto_region 2 with (go_at_call 15; refine HC.out.mono ?_; rintro e w3 ⟨rfl, hA3⟩; have H3 := hid hA3; clear hA3)
    clear c0 c1 c2 c3
    have HB3 := hid (box_adds HB1.out H3.out)
    have HB4 := hid (box_adds HB2.out H3.out)
    have HT := hid (two_store (w := w) (a1 := #[.bool false, .slice .none 0 0, .slice .none 0 0, .slice .none 0 0]) (a2 := #[.bool false, .slice .none 0 0, .slice .none 0 0, .slice .none 0 0]) (NOwn.none w3 w.heap.size) HB3.out HB4.out HNe.out (HA2.out.trans H3.out) HL.out HL2.out)
    go_wp2_with (first
      | (refine wpList_store_row rfl 28 _ _ rfl N1 #[.bool false, .slice .none 0 0, .slice .none 0 0, .slice .none 0 0] rfl rfl 28 _ HB3.out (info4 _ _ _ _) rfl (one4 _ _ _ _ _ _ _ _ _ _) ?_)
      | (refine wpList_store_row rfl 28 _ _ rfl N2 #[.bool false, .slice .none 0 0, .slice .none 0 0, .slice .none 0 0] rfl rfl 28 _ HT.out.2.2.2.2 (info4 _ _ _ _) rfl (one4 _ _ _ _ _ _ _ _ _ _) ?_))
    refine bodyPost_ret (results_n3 rfl _ _ N1 N2 _ _ rfl rfl HT.out.2.1 rfl HT.out.2.2.1 rfl) rfl ?_
    rw [HE.out.1, HE.out.2.1, HE.out.2.2]
    exact ⟨NM.none, NM.none, rfl, ⟨rfl, HT.out.1⟩, ⟨rfl, HT.out.1⟩, HT.out.2.2.2.1, 0, Nat.zero_le _, .inl ⟨⟨fun j hj => (by cases hj), fun j hj => (by cases hj), fun j hj => (by cases hj), fun p hp => (by cases hp)⟩, NOwn.none _ _⟩⟩
  | true =>
    by_cases h2 : kn < 2
    · have h2z : (kn : Int) < 2 := by omega
      have hE : N.cutE x.nd = 40 := by unfold N.cutE; rw [← HR.out, if_neg (by decide), if_pos (by rw [show x.nd.keys.length = kn from HKn.out.symm]; exact h2)]
      have HE := hid (show N.cutE x.nd = 40 ∧ N.cutA x.nd = N.nil ∧ N.cutB x.nd = N.nil from ⟨hE, by unfold N.cutA; rw [if_neg (by rw [hE]; decide)], by unfold N.cutB; rw [if_neg (by rw [hE]; decide)]⟩)
      clear hE h2
      go_upto_region 3 with (go_at_call 15; refine HC.out.mono ?_; rintro e w3 ⟨rfl, hA3⟩; have H3 := hid hA3; obtain ⟨q0, q1, q2, q3⟩ := box_cells (box_adds HB0.out hA3); clear hA3)
      clear c0 c1 c2 c3
      have HB3 := hid (box_adds HB1.out H3.out)
      have HB4 := hid (box_adds HB2.out H3.out)
      have HT := hid (two_store (w := w) (a1 := #[.bool false, .slice .none 0 0, .slice .none 0 0, .slice .none 0 0]) (a2 := #[.bool false, .slice .none 0 0, .slice .none 0 0, .slice .none 0 0]) (NOwn.none w3 w.heap.size) HB3.out HB4.out HNe.out (HA2.out.trans H3.out) HL.out HL2.out)
      go_wp2_with (first
        | (refine wpList_store_row rfl 28 _ _ rfl N1 #[.bool false, .slice .none 0 0, .slice .none 0 0, .slice .none 0 0] rfl rfl 28 _ HB3.out (info4 _ _ _ _) rfl (one4 _ _ _ _ _ _ _ _ _ _) ?_)
        | (refine wpList_store_row rfl 28 _ _ rfl N2 #[.bool false, .slice .none 0 0, .slice .none 0 0, .slice .none 0 0] rfl rfl 28 _ HT.out.2.2.2.2 (info4 _ _ _ _) rfl (one4 _ _ _ _ _ _ _ _ _ _) ?_))
      refine bodyPost_ret (results_n3 rfl _ _ N1 N2 _ _ rfl rfl HT.out.2.1 rfl HT.out.2.2.1 rfl) rfl ?_
      rw [HE.out.1, HE.out.2.1, HE.out.2.2]
      exact ⟨NM.none, NM.none, rfl, ⟨rfl, HT.out.1⟩, ⟨rfl, HT.out.1⟩, HT.out.2.2.2.1, 0, Nat.zero_le _, .inl ⟨⟨fun j hj => (by cases hj), fun j hj => (by cases hj), fun j hj => (by cases hj), fun p hp => (by cases hp)⟩, NOwn.none _ _⟩⟩
    · have h2z : ¬ (kn : Int) < 2 := by omega
      have hE : N.cutE x.nd = 0 := by unfold N.cutE; rw [← HR.out, if_neg (by decide), if_neg (by rw [show x.nd.keys.length = kn from HKn.out.symm]; exact h2)]
      obtain ⟨m, hm⟩ : ∃ m, m = N.middle x.nd := ⟨_, rfl⟩
      have hmk : m ≤ kn := by rw [hm, HKn.out]; exact N.mid_lt _ _
      have HM := hid hm
      have HE := hid (show N.cutE x.nd = 0 ∧ N.cutA x.nd = N.without x.nd m kn ∧ N.cutB x.nd = N.without x.nd 0 m from ⟨hE, by unfold N.cutA; rw [if_pos hE, hm]; rw [show x.nd.keys.length = kn from HKn.out.symm], by unfold N.cutB; rw [if_pos hE, hm]⟩)
      obtain ⟨ndA, hndA⟩ : ∃ n, n = N.without x.nd m kn := ⟨_, rfl⟩
      obtain ⟨ndB, hndB⟩ : ∃ n, n = N.without x.nd 0 m := ⟨_, rfl⟩
      have HCm := hid (fun (w' : World) (hA : Adds w w') => show Calls Try.prog 60 #[.agg #[.bool x.leaf, .slice x.ka kn x.kc, .slice x.v.a x.v.l.length x.v.cap, .slice x.ia x.is.length x.ic]] w' (Adding (.int .i64 (m : Int)) w') by
        rw [hm, ← HV.out]; exact nmiddle_any x w' (HX.out.adds hA) HSx.out HR.out.symm)
      have HCa := hid (fun (w' : World) (hA : Adds w w') => show Calls Try.prog 58 #[.agg #[.bool x.leaf, .slice x.ka kn x.kc, .slice x.v.a x.v.l.length x.v.cap, .slice x.ia x.is.length x.ic], .int .i64 (m : Int), .int .i64 (kn : Int)] w' (PNd w' ndA) by
        rw [hndA, ← HV.out]; exact PNode.nd (nwithout_any x m kn w' (HX.out.adds hA) HSx.out (by rw [← HKn.out]; exact hmk) (by rw [← HKn.out]; exact Nat.le_refl _) (right_len HR.out.symm).1 (right_len HR.out.symm).2))
      have HCb := hid (fun (w' : World) (hA : Adds w w') => show Calls Try.prog 58 #[.agg #[.bool x.leaf, .slice x.ka kn x.kc, .slice x.v.a x.v.l.length x.v.cap, .slice x.ia x.is.length x.ic], .int .i64 0, .int .i64 (m : Int)] w' (PNd w' ndB) by
        rw [hndB, ← HV.out]; exact PNode.nd (nwithout_any x 0 m w' (HX.out.adds hA) HSx.out (Nat.zero_le _) (by rw [← HKn.out]; exact hmk) (right_len HR.out.symm).1 (right_len HR.out.symm).2))
      have HE2 := hid (show N.cutE x.nd = 0 ∧ N.cutA x.nd = ndA ∧ N.cutB x.nd = ndB by rw [hndA, hndB]; exact HE.out)
      clear hE h2 hm hndA hndB HE
      go_upto_region 5 with (go_at_call 15; refine HC.out.mono ?_; rintro e w3 ⟨rfl, hA3⟩; have H3 := hid hA3; obtain ⟨q0, q1, q2, q3⟩ := box_cells (box_adds HB0.out hA3); clear hA3)
      clear c0 c1 c2 c3 HC
      have A3 := hid (HA2.out.trans H3.out)
      have X3 := hid (box_adds HB0.out H3.out)
      go_upto_region 6 with (first
        | (refine wpList_load_row rfl 28 _ rfl N0 rfl 28 _ _ _ X3.out Try.underlying28 rfl (info4 _ _ _ _) ?_)
        | (go_at_call 60; refine (HCm.out w3 A3.out).mono ?_; rintro e w4 ⟨rfl, hA4⟩; have H4 := hid hA4; clear hA4))
      clear q0 q1 q2 q3 HCm
      have A4 := hid (A3.out.trans H4.out)
      have X4 := hid (box_adds X3.out H4.out)
      have Y4 := hid (box_adds HB1.out (H3.out.trans H4.out))
      have Z4 := hid (box_adds HB2.out (H3.out.trans H4.out))
      go_cut [4] (fun t wx => ∃ (lA : Bool) (kaA : Option Addr) (kcA : Nat) (ksA : List (List UInt8)) (gA : Pl) (iaA : Option Addr) (icA : Nat) (isA : List Int) (lB : Bool) (kaB : Option Addr) (kcB : Nat) (ksB : List (List UInt8)) (gB : Pl) (iaB : Option Addr) (icB : Nat) (isB : List Int), t = .int .i64 0 ∧ Hid (CutE w ndA ndB N1 N2 ⟨lA, kaA, kcA, ksA, gA, iaA, icA, isA⟩ ⟨lB, kaB, kcB, ksB, gB, iaB, icB, isB⟩ wx))
      case first =>
        refine Pe_begin (S := fun W : World => Adds w W ∧ W.heap[N0]? = some (.cells #[.bool x.leaf, .slice x.ka kn x.kc, .slice x.v.a x.v.l.length x.v.cap, .slice x.ia x.is.length x.ic] 28)) (X := 12) (by kernel_rfl) ?_
        have hS : (fun W : World => Adds w W ∧ W.heap[N0]? = some (.cells #[.bool x.leaf, .slice x.ka kn x.kc, .slice x.v.a x.v.l.length x.v.cap, .slice x.ia x.is.length x.ic] 28)) w4.drew := ⟨A4.out.trans (adds_dr w4), box_adds X4.out (adds_dr w4)⟩
        refine Pe_put (i := 0) 21 (v := .agg #[.bool x.leaf, .slice x.ka kn x.kc, .slice x.v.a x.v.l.length x.v.cap, .slice x.ia x.is.length x.ic]) rfl rfl (by kernel_rfl) (by kernel_rfl) (by kernel_rfl) (by kernel_rfl) (fun _ _ _ h => h) (Or.inl ⟨by rfl, fun w' hw' => ?_⟩) hS ?_
        · (obtain ⟨c0, c1, c2, c3⟩ := box_cells hw'.2; clear hw'; go_simp)
        simp only [Act.put, List.setIfInBounds_toArray, List.set_cons_zero, List.set_cons_succ]
        refine Pe_put (i := 1) 22 (v := .int .i64 (m : Int)) rfl rfl (by kernel_rfl) (by kernel_rfl) (by kernel_rfl) (by kernel_rfl) (fun _ _ _ h => h) (Or.inl ⟨by rfl, fun w' hw' => ?_⟩) hS ?_
        · go_simp
        simp only [Act.put, List.setIfInBounds_toArray, List.set_cons_zero, List.set_cons_succ]
        refine Pe_put (i := 2) 23 (v := .pointer (some ⟨N0, 1, none⟩)) rfl rfl (by kernel_rfl) (by kernel_rfl) (by kernel_rfl) (by kernel_rfl) (fun _ _ _ h => h) (Or.inl ⟨by rfl, fun w' hw' => ?_⟩) hS ?_
        · go_simp
        simp only [Act.put, List.setIfInBounds_toArray, List.set_cons_zero, List.set_cons_succ]
        refine Pe_put (i := 3) 24 (v := .slice x.ka kn x.kc) rfl rfl (by kernel_rfl) (by kernel_rfl) (by kernel_rfl) (by kernel_rfl) (fun _ _ _ h => h) (Or.inl ⟨by rfl, fun w' hw' => ?_⟩) hS ?_
        · (obtain ⟨_, c, _, _⟩ := box_cells hw'.2; clear hw'; go_simp)
        simp only [Act.put, List.setIfInBounds_toArray, List.set_cons_zero, List.set_cons_succ]
        refine Pe_put (i := 4) 25 (v := .int .i64 (kn : Int)) rfl rfl (by kernel_rfl) (by kernel_rfl) (by kernel_rfl) (by kernel_rfl) (fun _ _ _ h => h) (Or.inl ⟨by rfl, fun w' hw' => ?_⟩) hS ?_
        · go_simp
        simp only [Act.put, List.setIfInBounds_toArray, List.set_cons_zero, List.set_cons_succ]
        refine Pe_put (i := 6) 27 (v := .agg #[.bool x.leaf, .slice x.ka kn x.kc, .slice x.v.a x.v.l.length x.v.cap, .slice x.ia x.is.length x.ic]) rfl rfl (by kernel_rfl) (by kernel_rfl) (by kernel_rfl) (by kernel_rfl) (fun _ _ _ h => h) (Or.inl ⟨by rfl, fun w' hw' => ?_⟩) hS ?_
        · (obtain ⟨c0, c1, c2, c3⟩ := box_cells hw'.2; clear hw'; go_simp)
        simp only [Act.put, List.setIfInBounds_toArray, List.set_cons_zero, List.set_cons_succ]
        refine Pe_put (i := 7) 28 (v := .int .i64 (m : Int)) rfl rfl (by kernel_rfl) (by kernel_rfl) (by kernel_rfl) (by kernel_rfl) (fun _ _ _ h => h) (Or.inl ⟨by rfl, fun w' hw' => ?_⟩) hS ?_
        · go_simp
        simp only [Act.put, List.setIfInBounds_toArray, List.set_cons_zero, List.set_cons_succ]
        refine Pe_call (i := 5) 26 58 #[.agg #[.bool x.leaf, .slice x.ka kn x.kc, .slice x.v.a x.v.l.length x.v.cap, .slice x.ia x.is.length x.ic], .int .i64 (m : Int), .int .i64 (kn : Int)] (by kernel_rfl) rfl rfl (by rfl) (by go_simp) (HCa.out _ hS.1) ?_
        rintro e w5 ⟨lA, kaA, kcA, ksA, gA, iaA, icA, isA, rfl, H5⟩
        have hS2 : (fun W : World => Adds w W ∧ W.heap[N0]? = some (.cells #[.bool x.leaf, .slice x.ka kn x.kc, .slice x.v.a x.v.l.length x.v.cap, .slice x.ia x.is.length x.ic] 28)) w5 := ⟨hS.1.trans H5.out.2.2, box_adds hS.2 H5.out.2.2⟩
        refine ⟨_, rfl, fun _ => hS2, ?_⟩
        clear hS; have hS := hS2; clear hS2
        simp only [Act.put, List.setIfInBounds_toArray, List.set_cons_zero, List.set_cons_succ]
        refine Pe_call (i := 8) 29 58 #[.agg #[.bool x.leaf, .slice x.ka kn x.kc, .slice x.v.a x.v.l.length x.v.cap, .slice x.ia x.is.length x.ic], .int .i64 0, .int .i64 (m : Int)] (by kernel_rfl) rfl rfl (by rfl) (by go_simp) (HCb.out _ hS.1) ?_
        rintro e w6 ⟨lB, kaB, kcB, ksB, gB, iaB, icB, isB, rfl, H6⟩
        have hS2 : (fun W : World => Adds w W ∧ W.heap[N0]? = some (.cells #[.bool x.leaf, .slice x.ka kn x.kc, .slice x.v.a x.v.l.length x.v.cap, .slice x.ia x.is.length x.ic] 28)) w6 := ⟨hS.1.trans H6.out.2.2, box_adds hS.2 H6.out.2.2⟩
        refine ⟨_, rfl, fun _ => hS2, ?_⟩
        clear hS; have hS := hS2; clear hS2
        simp only [Act.put, List.setIfInBounds_toArray, List.set_cons_zero, List.set_cons_succ]
        have HEnd := hid (cut_a (zA := ⟨lA, kaA, kcA, ksA, gA, iaA, icA, isA⟩) (zB := ⟨lB, kaB, kcB, ksB, gB, iaB, icB, isB⟩) (A4.out.trans (adds_dr w4)) H5.out H6.out (box_adds Y4.out (adds_dr w4)) (box_adds Z4.out (adds_dr w4)) HNe.out HL.out HL2.out)
        have Y6 := hid (box_adds Y4.out ((adds_dr w4).trans (H5.out.2.2.trans H6.out.2.2)))
        have Z6 := hid (box_adds Z4.out ((adds_dr w4).trans (H5.out.2.2.trans H6.out.2.2)))
        have HT := hid (two_store (w := w) (a1 := #[.bool lA, .slice kaA ksA.length kcA, .slice gA.a gA.l.length gA.cap, .slice iaA isA.length icA]) (a2 := #[.bool lB, .slice kaB ksB.length kcB, .slice gB.a gB.l.length gB.cap, .slice iaB isB.length icB]) (NOwn.none w6 w.heap.size) Y6.out Z6.out HNe.out hS.1 HL.out HL2.out)
        refine Pe_do (i := 9) none (by kernel_rfl) rfl rfl rfl (fun K' hK => ?_)
        refine Go.wp_store_row 28 _ _ rfl N1 #[.bool lA, .slice kaA ksA.length kcA, .slice gA.a gA.l.length gA.cap, .slice iaA isA.length icA] rfl rfl 28 _ Y6.out (info4 _ _ _ _) rfl (one4 _ _ _ _ _ _ _ _ _ _) ?_
        have hS2 := st_keep (cs := #[.bool lA, .slice kaA ksA.length kcA, .slice gA.a gA.l.length gA.cap, .slice iaA isA.length icA]) hS HN01.out HL.out
        refine hK _ _ (fun _ => hS2) ?_
        clear hS; have hS := hS2; clear hS2
        simp only [Act.put]
        refine Pe_do (i := 10) none (by kernel_rfl) rfl rfl rfl (fun K' hK => ?_)
        refine Go.wp_store_row 28 _ _ rfl N2 #[.bool lB, .slice kaB ksB.length kcB, .slice gB.a gB.l.length gB.cap, .slice iaB isB.length icB] rfl rfl 28 _ HT.out.2.2.2.2 (info4 _ _ _ _) rfl (one4 _ _ _ _ _ _ _ _ _ _) ?_
        have hS2 := st_keep (cs := #[.bool lB, .slice kaB ksB.length kcB, .slice gB.a gB.l.length gB.cap, .slice iaB isB.length icB]) hS HN02.out HL2.out
        refine hK _ _ (fun _ => hS2) ?_
        clear hS; have hS := hS2; clear hS2
        simp only [Act.put]
        refine Pe_put (i := 11) 4 (v := .int .i64 0) rfl rfl (by kernel_rfl) (by kernel_rfl) (by kernel_rfl) (by kernel_rfl) (fun _ _ _ h => h) (Or.inl ⟨by rfl, fun w' hw' => ?_⟩) hS ?_
        · go_simp
        refine Pe_done (by kernel_rfl) ?_ _
        clear hS
        simp only [Act.put, List.setIfInBounds_toArray, List.set_cons_zero, List.set_cons_succ]
        go_wp2
        go_meet
        case rel => exact ⟨lA, kaA, kcA, ksA, gA, iaA, icA, isA, lB, kaB, kcB, ksB, gB, iaB, icB, isB, rfl, HEnd⟩
      case rest =>
        obtain ⟨lA, kaA, kcA, ksA, gA, iaA, icA, isA, lB, kaB, kcB, ksB, gB, iaB, icB, isB, rfl, HCt⟩ := hcut
        go_wp2
        refine bodyPost_ret (results_n3 rfl _ _ N1 N2 _ _ rfl rfl HCt.out.1 rfl HCt.out.2.1 rfl) rfl ?_
        rw [HE2.out.1, HE2.out.2.1, HE2.out.2.2]
        exact ⟨⟨lA, kaA, kcA, ksA, gA, iaA, icA, isA⟩, ⟨lB, kaB, kcB, ksB, gB, iaB, icB, isB⟩, rfl, HCt.out.2.2⟩
end Go.Proofs.Ytplppnngmlljnaa

/- Two nodes joined. -/
namespace Go.Proofs.Ytplppnngmlljnaa
open Go.RowKit

/-- The boxes of two nodes that were handed in, and the block of the result. -/
theorem jopen (w : World) (bx bz : Array Value) : ∃ N0 N1 N2 w3, N0 = w.heap.size ∧ N1 = N0 + 1 ∧ N2 = N1 + 1 ∧ w3 = ((w.alloc (.cells bx 28)).alloc (.cells bz 28)).alloc NZ ∧ Hid (Adds w w3) ∧ Hid (w3.heap[N0]? = some (.cells bx 28)) ∧ Hid (w3.heap[N1]? = some (.cells bz 28)) ∧ Hid (w3.heap[N2]? = some NZ) ∧ Hid (w.heap.size ≤ N1) := by
  have e1 : (w.alloc (.cells bx 28)).heap.size = w.heap.size + 1 := by simp
  have e2 : ((w.alloc (.cells bx 28)).alloc (.cells bz 28)).heap.size = w.heap.size + 1 + 1 := by simp
  refine ⟨_, _, _, _, rfl, rfl, rfl, rfl, (((Touch.refl _ w).alloc _).alloc _).alloc _, box_adds (heap_alloc_new w _) (((Touch.refl _ _).alloc _).alloc _), ?_, ?_, ?_⟩
  · rw [← e1]; exact box_adds (heap_alloc_new _ _) ((Touch.refl _ _).alloc _)
  · rw [← e2]; exact heap_alloc_new _ _
  · exact (Nat.le_succ _ : w.heap.size ≤ w.heap.size + 1)
def N.joinB (b : N.Nd) (key : List UInt8) : N.Nd := if b.leaf then b else { b with keys := key :: b.keys.tail }
/-- The second node with its new keys. -/
theorem join_y {w w5 : World} {N1 B : Nat} {y : NM} {Q' : Nat → Prop} {a7 : Option Addr} {c7 n : Nat} {ks' : List (List UInt8)} (hy : NQ w Q' y) (hA : Adds w w5) (h5 : w5.ownsRow B 9 1 (.slice a7 n c7) n (Ss ks')) (hn : n = ks'.length) (hB : N1 < B) (hL : w.heap.size ≤ N1) (v : Value) :
    NQ (w5.setCell ⟨N1, 1, none⟩ v) (fun _ => True) ⟨y.leaf, a7, c7, ks', y.v, y.ia, y.ic, y.is⟩ ∧ Adds w (w5.setCell ⟨N1, 1, none⟩ v) := by
  subst hn
  have hT : Touch (fun j => j = N1) w5 (w5.setCell ⟨N1, 1, none⟩ v) := Touch.setCell (T := fun j => j = N1) (Touch.refl _ w5) (p := ⟨N1, 1, none⟩) (fun _ => rfl) _
  have hA6 := hA.then hT (fun j hj e => by omega)
  have q := hy.adds hA6
  obtain ⟨k1, k2, k3⟩ := row_q h5
  exact ⟨⟨(k3.touch hT (fun j hj e => by have h8 : B ≤ j := hj; have h9 : j = N1 := e; omega)).mono (fun _ _ _ => trivial), k2, k1, q.vals.mono (fun _ _ _ => trivial), q.vr, q.kids.mono (fun _ _ _ => trivial), q.inn, q.ir⟩, hA6⟩
theorem N.joinB_bd {m : Nat} {b : N.Nd} {key : List UInt8} (h : N.Bd m b) (hr : N.right b = true) (hk : key.length ≤ 1000) : N.Bd m (N.joinB b key) := by
  unfold N.joinB
  split
  · exact h
  · rename_i hl
    rcases (right_parts hr).2 with ⟨q0, _⟩ | ⟨q0, q1, q2, q3, q4, q5⟩
    · exact absurd q0 hl
    · refine ⟨?_, h.v, h.i, fun x hx => ?_, h.vl⟩
      · show (key :: b.keys.tail).length ≤ m
        rw [List.length_cons, List.length_tail]
        have := h.k
        omega
      · rcases List.mem_cons.1 hx with rfl | hx
        · exact hk
        · exact h.kl x (List.mem_of_mem_tail hx)
set_option maxRecDepth 100000 in
set_option maxHeartbeats 8000000 in
theorem njoin_any (x y : NM) (key : List UInt8) (w : World) {Q Q' : Nat → Prop} (hx : NQ w Q x) (hy : NQ w Q' y) (hbx : N.Bd 400 x.nd) (hby : N.Bd 400 y.nd) (hkl : key.length ≤ 1000) :
    Calls Try.prog 31 #[x.val, .string ⟨key.toArray⟩, y.val] w (PTnode w (N.join x.nd key y.nd)) := by
  have sx := (hbx.mono (m' := 900) (by decide)).ns (by decide)
  have sy := (hby.mono (m' := 900) (by decide)).ns (by decide)
  obtain ⟨N0, N1, N2, w3, hN0, hN1, hN2, hw3, HA3, HB0, HB1, HB2, HL⟩ := jopen w #[.bool x.leaf, .slice x.ka x.ks.length x.kc, .slice x.v.a x.v.l.length x.v.cap, .slice x.ia x.is.length x.ic] #[.bool y.leaf, .slice y.ka y.ks.length y.kc, .slice y.v.a y.v.l.length y.v.cap, .slice y.ia y.is.length y.ic]
  have HNe := hid (show N0 ≠ N1 ∧ N2 ≠ N1 ∧ w.heap.size ≤ N2 by have := HL.out; omega)
  obtain ⟨ra, hra⟩ : ∃ r, r = N.right x.nd := ⟨_, rfl⟩
  obtain ⟨rb, hrb⟩ : ∃ r, r = N.right y.nd := ⟨_, rfl⟩
  have HCx := hid (fun (w' : World) (hA : Adds w w') => show Calls Try.prog 15 #[x.val] w' (Adding (.bool ra) w') by rw [hra]; exact nright_any x w' (hx.adds hA) sx)
  have HCy := hid (fun (w' : World) (hA : Adds w w') => show Calls Try.prog 15 #[y.val] w' (Adding (.bool rb) w') by rw [hrb]; exact nright_any y w' (hy.adds hA) sy)
  have HRa := hid hra
  have HRb := hid hrb
  have HX := hid hx
  have HY := hid hy
  have HSx := hid sx
  have HSy := hid sy
  have HBx := hid hbx
  have HBy := hid hby
  have HKl := hid hkl
  obtain ⟨kn, hkn⟩ : ∃ kn, kn = x.ks.length := ⟨_, rfl⟩
  have hk9 : kn ≤ 400 := by rw [hkn]; exact hbx.k
  have HKn := hid hkn
  obtain ⟨xl, hxl⟩ : ∃ l, l = x.leaf := ⟨_, rfl⟩
  obtain ⟨yl, hyl⟩ : ∃ l, l = y.leaf := ⟨_, rfl⟩
  have HXl := hid hxl
  have HYl := hid hyl
  have hv : x.val = .agg #[.bool xl, .slice x.ka kn x.kc, .slice x.v.a x.v.l.length x.v.cap, .slice x.ia x.is.length x.ic] := by rw [hkn, hxl]
  have hv2 : y.val = .agg #[.bool yl, .slice y.ka y.ks.length y.kc, .slice y.v.a y.v.l.length y.v.cap, .slice y.ia y.is.length y.ic] := by rw [hyl]
  have HV := hid hv
  have HV2 := hid hv2
  rw [hv] at HCx ⊢
  rw [hv2] at HCy ⊢
  rw [← hkn, ← hxl, ← hyl] at hw3
  rw [← hkn, ← hxl] at HB0
  rw [← hyl] at HB1
  clear hx sx hy sy hbx hby hra hrb hkn hxl hyl hv hv2
  go_enter Try.func31, Try.ntmps31
  go_upto_region 1 with fail
  rw [← hw3, ← hN0, ← hN1, ← hN2]
  clear hw3 hN0 hN1 hN2
  cases ra with
  | false =>
    have HE := hid (show N.join x.nd key y.nd = (N.nil, 22) by unfold N.join; rw [if_pos (.inl HRa.out.symm)])
    go_upto_region 2 with (first
      | (refine wpList_load_row rfl 28 _ rfl N0 rfl 28 _ _ _ HB0.out Try.underlying28 rfl (info4 _ _ _ _) ?_)
      | (go_at_call 15; refine (HCx.out w3 HA3.out).mono ?_; rintro e w4 ⟨rfl, hA4⟩; have H4 := hid hA4; clear hA4))
    have HB4 := hid (box_adds HB2.out H4.out)
    go_wp2_with (refine wpList_store_row rfl 28 _ _ rfl N2 #[.bool false, .slice .none 0 0, .slice .none 0 0, .slice .none 0 0] rfl rfl 28 _ HB4.out (info4 _ _ _ _) rfl (one4 _ _ _ _ _ _ _ _ _ _) ?_)
    refine bodyPost_ret (results_n2 rfl _ _ N2 _ rfl (setRow_heap w4 N2 _ _ 28 _ HB4.out) rfl) rfl ?_
    rw [HE.out]
    exact ptnode_end (z := NM.none) rfl rfl (NOwn.none _ _) (HA3.out.trans H4.out) HB4.out HNe.out.2.2 _
  | true =>
  cases rb with
  | false =>
    have HE := hid (show N.join x.nd key y.nd = (N.nil, 22) by unfold N.join; rw [if_pos (.inr (.inl HRb.out.symm))])
    go_upto_region 2 with (first
      | (refine wpList_load_row rfl 28 _ rfl N0 rfl 28 _ _ _ HB0.out Try.underlying28 rfl (info4 _ _ _ _) ?_)
      | (refine wpList_load_g (by rfl) 28 _ rfl N1 0 rfl [.bool yl, .slice y.ka y.ks.length y.kc, .slice y.v.a y.v.l.length y.v.cap, .slice y.ia y.is.length y.ic] _ (rng_of (box_adds HB1.out H4.out)) Try.underlying28 rfl infoN.out ?_)
      | (go_at_call 15; refine (HCy.out w4 (HA3.out.trans H4.out)).mono ?_; rintro e w5 ⟨rfl, hA5⟩; have H5 := hid hA5; clear hA5)
      | (go_at_call 15; refine (HCx.out w3 HA3.out).mono ?_; rintro e w4 ⟨rfl, hA4⟩; have H4 := hid hA4; clear hA4))
    have HB5 := hid (box_adds HB2.out (H4.out.trans H5.out))
    go_wp2_with (refine wpList_store_row rfl 28 _ _ rfl N2 #[.bool false, .slice .none 0 0, .slice .none 0 0, .slice .none 0 0] rfl rfl 28 _ HB5.out (info4 _ _ _ _) rfl (one4 _ _ _ _ _ _ _ _ _ _) ?_)
    refine bodyPost_ret (results_n2 rfl _ _ N2 _ rfl (setRow_heap w5 N2 _ _ 28 _ HB5.out) rfl) rfl ?_
    rw [HE.out]
    exact ptnode_end (z := NM.none) rfl rfl (NOwn.none _ _) (HA3.out.trans (H4.out.trans H5.out)) HB5.out HNe.out.2.2 _
  | true =>
    cases xl with
    | true =>
      cases yl with
      | false =>
        have HE := hid (show N.join x.nd key y.nd = (N.nil, 22) by unfold N.join; rw [if_pos (.inr (.inr (show x.nd.leaf ≠ y.nd.leaf by rw [show x.nd.leaf = true from HXl.out.symm, show y.nd.leaf = false from HYl.out.symm]; decide)))])
        go_upto_region 2 with (first
          | (refine wpList_load_row rfl 28 _ rfl N0 rfl 28 _ _ _ HB0.out Try.underlying28 rfl (info4 _ _ _ _) ?_)
          | (refine wpList_load_g (by rfl) 28 _ rfl N1 0 rfl [.bool false, .slice y.ka y.ks.length y.kc, .slice y.v.a y.v.l.length y.v.cap, .slice y.ia y.is.length y.ic] _ (rng_of (box_adds HB1.out H4.out)) Try.underlying28 rfl infoN.out ?_)
          | (go_at_call 15; refine (HCy.out w4 (HA3.out.trans H4.out)).mono ?_; rintro e w5 ⟨rfl, hA5⟩; have H5 := hid hA5; clear hA5; obtain ⟨x0, _, _, _⟩ := box_cells (box_adds HB0.out (H4.out.trans H5.out)); obtain ⟨y0, _, _, _⟩ := box_cells (box_adds HB1.out (H4.out.trans H5.out)))
          | (go_at_call 15; refine (HCx.out w3 HA3.out).mono ?_; rintro e w4 ⟨rfl, hA4⟩; have H4 := hid hA4; clear hA4))
        clear x0 y0
        have HB5 := hid (box_adds HB2.out (H4.out.trans H5.out))
        go_wp2_with (refine wpList_store_row rfl 28 _ _ rfl N2 #[.bool false, .slice .none 0 0, .slice .none 0 0, .slice .none 0 0] rfl rfl 28 _ HB5.out (info4 _ _ _ _) rfl (one4 _ _ _ _ _ _ _ _ _ _) ?_)
        refine bodyPost_ret (results_n2 rfl _ _ N2 _ rfl (setRow_heap w5 N2 _ _ 28 _ HB5.out) rfl) rfl ?_
        rw [HE.out]
        exact ptnode_end (z := NM.none) rfl rfl (NOwn.none _ _) (HA3.out.trans (H4.out.trans H5.out)) HB5.out HNe.out.2.2 _
      | true =>
        obtain ⟨nd, hnd⟩ : ∃ nd, nd = N.change x.nd kn kn (N.joinB y.nd key) := ⟨_, rfl⟩
        have HE := hid (show N.join x.nd key y.nd = N.told nd by unfold N.join; rw [if_neg (fun c => c.elim (fun c => by rw [← HRa.out] at c; cases c) (fun c => c.elim (fun c => by rw [← HRb.out] at c; cases c) (fun c => c (by rw [show x.nd.leaf = true from HXl.out.symm, show y.nd.leaf = true from HYl.out.symm])))), hnd, HKn.out]; rfl)
        have HBn := hid (show N.Bd 1000 nd by rw [hnd]; exact (HBx.out.change (N.joinB_bd HBy.out HRb.out.symm HKl.out) (Nat.le_refl kn)).mono (by decide))
        go_upto_region 3 with (first
          | (refine wpList_load_row rfl 28 _ rfl N0 rfl 28 _ _ _ HB0.out Try.underlying28 rfl (info4 _ _ _ _) ?_)
          | (refine wpList_load_g (by rfl) 28 _ rfl N1 0 rfl [.bool true, .slice y.ka y.ks.length y.kc, .slice y.v.a y.v.l.length y.v.cap, .slice y.ia y.is.length y.ic] _ (rng_of (box_adds HB1.out H4.out)) Try.underlying28 rfl infoN.out ?_)
          | (go_at_call 15; refine (HCy.out w4 (HA3.out.trans H4.out)).mono ?_; rintro e w5 ⟨rfl, hA5⟩; have H5 := hid hA5; clear hA5; obtain ⟨x0, _, _, _⟩ := box_cells (box_adds HB0.out (H4.out.trans H5.out)); obtain ⟨y0, _, _, _⟩ := box_cells (box_adds HB1.out (H4.out.trans H5.out)))
          | (go_at_call 15; refine (HCx.out w3 HA3.out).mono ?_; rintro e w4 ⟨rfl, hA4⟩; have H4 := hid hA4; clear hA4))
        have A6 := hid (HA3.out.trans (H4.out.trans H5.out))
        have X6 := hid (box_adds HB0.out (H4.out.trans H5.out))
        have Y6 := hid (box_adds HB1.out (H4.out.trans H5.out))
        have Z6 := hid (box_adds HB2.out (H4.out.trans H5.out))
        clear x0
        go_upto_region 5 with fail
        clear y0
        have HCh := hid (show Calls Try.prog 55 #[.agg #[.bool true, .slice x.ka kn x.kc, .slice x.v.a x.v.l.length x.v.cap, .slice x.ia x.is.length x.ic], .int .i64 (kn : Int), .int .i64 (kn : Int), .agg #[.bool true, .slice y.ka y.ks.length y.kc, .slice y.v.a y.v.l.length y.v.cap, .slice y.ia y.is.length y.ic]] w5 (PNode w5 nd) by
          have e : N.joinB y.nd key = y.nd := by unfold N.joinB; rw [show y.nd.leaf = true from HYl.out.symm]; rfl
          rw [hnd, e, ← HV.out, ← HV2.out]
          exact nchange_any x y kn kn w5 (HX.out.adds A6.out) HSx.out (HY.out.adds A6.out) HSy.out (by rw [HKn.out]; exact Nat.le_refl _) (by rw [HKn.out]; exact Nat.le_refl _) (right_len HRa.out.symm).1 (right_len HRa.out.symm).2)
        clear hnd
        obtain ⟨x0, x1, _, _⟩ := box_cells X6.out
        go_wp2_with (first
          | (refine wpList_load_row rfl 28 _ rfl N0 rfl 28 _ _ _ X6.out Try.underlying28 rfl (info4 _ _ _ _) ?_)
          | (refine wpList_load_row rfl 28 _ rfl N1 rfl 28 _ _ _ Y6.out Try.underlying28 rfl (info4 _ _ _ _) ?_)
          | (go_at_call 55; refine HCh.out.mono ?_; rintro e w7 hp; obtain ⟨leaf, ka, kc, ks, va, vc, hs, ia, ic, zs, rfl, H7⟩ := hp.op; clear hp; have HWh := hid (whole_made (w1 := w) H7.out.1 H7.out.2.1 HBn.out A6.out.size))
          | (go_at_call 50; refine HWh.out.mono ?_; rintro e w8 ⟨leaf5, ka5, kc5, ks5, va5, vc5, hs5, ia5, ic5, zs5, rfl, H8⟩; have HB8 := hid (box_adds Z6.out (H7.out.2.2.trans H8.out.2.2)))
          | (refine wpList_store_row rfl 28 _ _ rfl N2 #[.bool leaf5, .slice ka5 ks5.length kc5, .slice va5 hs5.length vc5, .slice ia5 zs5.length ic5] rfl rfl 28 _ HB8.out (info4 _ _ _ _) rfl (one4 _ _ _ _ _ _ _ _ _ _) ?_))
        refine bodyPost_ret (results_n2 rfl _ _ N2 _ rfl (setRow_heap w8 N2 _ _ 28 _ HB8.out) rfl) rfl ?_
        rw [HE.out]
        exact ptnode_end (z := ⟨leaf5, ka5, kc5, ks5, ⟨va5, vc5, hs5⟩, ia5, ic5, zs5⟩) H8.out.1 rfl H8.out.2.1 ((A6.out.trans H7.out.2.2).trans H8.out.2.2) HB8.out HNe.out.2.2 _
    | false =>
      cases yl with
      | true =>
        have HE := hid (show N.join x.nd key y.nd = (N.nil, 22) by unfold N.join; rw [if_pos (.inr (.inr (show x.nd.leaf ≠ y.nd.leaf by rw [show x.nd.leaf = false from HXl.out.symm, show y.nd.leaf = true from HYl.out.symm]; decide)))])
        go_upto_region 2 with (first
          | (refine wpList_load_row rfl 28 _ rfl N0 rfl 28 _ _ _ HB0.out Try.underlying28 rfl (info4 _ _ _ _) ?_)
          | (refine wpList_load_g (by rfl) 28 _ rfl N1 0 rfl [.bool true, .slice y.ka y.ks.length y.kc, .slice y.v.a y.v.l.length y.v.cap, .slice y.ia y.is.length y.ic] _ (rng_of (box_adds HB1.out H4.out)) Try.underlying28 rfl infoN.out ?_)
          | (go_at_call 15; refine (HCy.out w4 (HA3.out.trans H4.out)).mono ?_; rintro e w5 ⟨rfl, hA5⟩; have H5 := hid hA5; clear hA5; obtain ⟨x0, _, _, _⟩ := box_cells (box_adds HB0.out (H4.out.trans H5.out)); obtain ⟨y0, _, _, _⟩ := box_cells (box_adds HB1.out (H4.out.trans H5.out)))
          | (go_at_call 15; refine (HCx.out w3 HA3.out).mono ?_; rintro e w4 ⟨rfl, hA4⟩; have H4 := hid hA4; clear hA4))
        clear x0 y0
        have HB5 := hid (box_adds HB2.out (H4.out.trans H5.out))
        go_wp2_with (refine wpList_store_row rfl 28 _ _ rfl N2 #[.bool false, .slice .none 0 0, .slice .none 0 0, .slice .none 0 0] rfl rfl 28 _ HB5.out (info4 _ _ _ _) rfl (one4 _ _ _ _ _ _ _ _ _ _) ?_)
        refine bodyPost_ret (results_n2 rfl _ _ N2 _ rfl (setRow_heap w5 N2 _ _ 28 _ HB5.out) rfl) rfl ?_
        rw [HE.out]
        exact ptnode_end (z := NM.none) rfl rfl (NOwn.none _ _) (HA3.out.trans (H4.out.trans H5.out)) HB5.out HNe.out.2.2 _
      | false =>
        obtain ⟨nd, hnd⟩ : ∃ nd, nd = N.change x.nd kn kn (N.joinB y.nd key) := ⟨_, rfl⟩
        have HE := hid (show N.join x.nd key y.nd = N.told nd by unfold N.join; rw [if_neg (fun c => c.elim (fun c => by rw [← HRa.out] at c; cases c) (fun c => c.elim (fun c => by rw [← HRb.out] at c; cases c) (fun c => c (by rw [show x.nd.leaf = false from HXl.out.symm, show y.nd.leaf = false from HYl.out.symm])))), hnd, HKn.out]; rfl)
        have HBn := hid (show N.Bd 1000 nd by rw [hnd]; exact (HBx.out.change (N.joinB_bd HBy.out HRb.out.symm HKl.out) (Nat.le_refl kn)).mono (by decide))
        go_upto_region 3 with (first
          | (refine wpList_load_row rfl 28 _ rfl N0 rfl 28 _ _ _ HB0.out Try.underlying28 rfl (info4 _ _ _ _) ?_)
          | (refine wpList_load_g (by rfl) 28 _ rfl N1 0 rfl [.bool false, .slice y.ka y.ks.length y.kc, .slice y.v.a y.v.l.length y.v.cap, .slice y.ia y.is.length y.ic] _ (rng_of (box_adds HB1.out H4.out)) Try.underlying28 rfl infoN.out ?_)
          | (go_at_call 15; refine (HCy.out w4 (HA3.out.trans H4.out)).mono ?_; rintro e w5 ⟨rfl, hA5⟩; have H5 := hid hA5; clear hA5; obtain ⟨x0, _, _, _⟩ := box_cells (box_adds HB0.out (H4.out.trans H5.out)); obtain ⟨y0, _, _, _⟩ := box_cells (box_adds HB1.out (H4.out.trans H5.out)))
          | (go_at_call 15; refine (HCx.out w3 HA3.out).mono ?_; rintro e w4 ⟨rfl, hA4⟩; have H4 := hid hA4; clear hA4))
        have A5 := hid (HA3.out.trans (H4.out.trans H5.out))
        have X5 := hid (box_adds HB0.out (H4.out.trans H5.out))
        have Y5 := hid (box_adds HB1.out (H4.out.trans H5.out))
        have Z5 := hid (box_adds HB2.out (H4.out.trans H5.out))
        clear x0
        go_upto_region 4 with fail
        clear y0
        obtain ⟨_, y1, _, _⟩ := box_cells Y5.out
        obtain ⟨yn, hyn⟩ : ∃ n, n = y.ks.length := ⟨_, rfl⟩
        have hy0 : 1 ≤ yn := by
          rcases (right_parts HRb.out.symm).2 with ⟨q0, _⟩ | ⟨q0, q1, q2, q3, q4, q5⟩
          · rw [show y.nd.leaf = false from HYl.out.symm] at q0; cases q0
          · rw [hyn]; exact q4
        have HYn := hid hyn
        have HSp := hid (show Calls Try.prog 61 #[.slice y.ka y.ks.length y.kc, .int .i64 0, .int .i64 1, .slice (some ⟨w5.heap.size, 0, none⟩) 1 1] (w5.alloc (.cells #[.string ⟨key.toArray⟩] 9)) (PRowV 9 (w5.alloc (.cells #[.string ⟨key.toArray⟩] 9)) (Ss (key :: y.ks.tail)) yn) by
          have hc : (w5.alloc (.cells #[.string ⟨key.toArray⟩] 9)).cell? ⟨w5.heap.size, 0, none⟩ = some (Str key) := by rw [cellOf (heap_alloc_new w5 (.cells #[.string ⟨key.toArray⟩] 9))]; rfl
          have q := spliceS_any y.ka (some ⟨w5.heap.size, 0, none⟩) (Ss y.ks) (Ss [key]) y.ks.length y.kc 1 1 0 1 (w5.alloc (.cells #[.string ⟨key.toArray⟩] 9)) (len_Ss _) rfl HY.out.kr (Nat.zero_le _) (by rw [← hyn]; exact hy0) HSy.out.k (by decide) (HY.out.keys.adds (A5.out.alloc _)) (cq_one hc) HY.out.kn (fun e => by cases e) (one_Ss _) (one_Ss _)
          have e : (Ss y.ks).take 0 ++ (Ss [key] ++ (Ss y.ks).drop 1) = Ss (key :: y.ks.tail) := by rw [List.take_zero, List.nil_append, List.drop_one]; simp [Ss]
          rw [e] at q
          exact PRowV.of q (by rw [len_Ss, List.length_cons, List.length_tail]; omega))
        clear hyn
        go_upto_region 5 with (go_at_call 61; refine HSp.out.mono ?_; rintro e w6 ⟨a7, c7, rfl, H6⟩; have HY6 := hid (box_adds Y5.out (((Touch.refl _ _).alloc _).trans H6.out.2)); obtain ⟨z0, z1, z2, z3⟩ := box_cells HY6.out; have zf := box_free HY6.out 1)
        clear y1 z0 z1 z2 z3 zf
        obtain ⟨w9, hw9⟩ : ∃ w9, w9 = w6.setCell ⟨N1, 1, none⟩ (.slice a7 yn c7) := ⟨_, rfl⟩
        have HJ := hid (show NQ w9 (fun _ => True) ⟨false, a7, c7, key :: y.ks.tail, y.v, y.ia, y.ic, y.is⟩ ∧ Adds w w9 by
          have q := join_y (N1 := N1) HY.out (A5.out.trans (((Touch.refl _ _).alloc _).trans H6.out.2)) H6.out.1 (by have hyn := HYn.out; rw [List.length_cons, List.length_tail]; omega) (by have := (Array.getElem?_eq_some_iff.1 Y5.out).1; simp; omega) HL.out (.slice a7 yn c7)
          rw [hw9]; rw [← HYl.out] at q; exact q)
        have hT9 : Touch (fun j => j = N1) w6 w9 := by rw [hw9]; exact Touch.setCell (T := fun j => j = N1) (Touch.refl _ w6) (p := ⟨N1, 1, none⟩) (fun _ => rfl) _
        have X6 := hid (show w9.heap[N0]? = some (.cells #[.bool false, .slice x.ka kn x.kc, .slice x.v.a x.v.l.length x.v.cap, .slice x.ia x.is.length x.ic] 28) by have q := box_adds X5.out (((Touch.refl _ _).alloc (.cells #[.string ⟨key.toArray⟩] 9)).trans H6.out.2); rw [hT9.block N0 (Array.getElem?_eq_some_iff.1 q).1 HNe.out.1]; exact q)
        have Z6 := hid (show w9.heap[N2]? = some NZ by have q := box_adds Z5.out (((Touch.refl _ _).alloc (.cells #[.string ⟨key.toArray⟩] 9)).trans H6.out.2); rw [hT9.block N2 (Array.getElem?_eq_some_iff.1 q).1 HNe.out.2.1]; exact q)
        have Y6 := hid (show w9.heap[N1]? = some (.cells #[.bool false, .slice a7 yn c7, .slice y.v.a y.v.l.length y.v.cap, .slice y.ia y.is.length y.ic] 28) by rw [hw9, heap_setCell_same w6 N1 1 _ 28 _ HY6.out]; rfl)
        have A6 := hid HJ.out.2
        rw [← hw9]
        clear hw9 hT9 HY6
        have HCh := hid (show Calls Try.prog 55 #[.agg #[.bool false, .slice x.ka kn x.kc, .slice x.v.a x.v.l.length x.v.cap, .slice x.ia x.is.length x.ic], .int .i64 (kn : Int), .int .i64 (kn : Int), .agg #[.bool false, .slice a7 yn c7, .slice y.v.a y.v.l.length y.v.cap, .slice y.ia y.is.length y.ic]] w9 (PNode w9 nd) by
          have e : N.joinB y.nd key = NM.nd ⟨false, a7, c7, key :: y.ks.tail, y.v, y.ia, y.ic, y.is⟩ := by unfold N.joinB; rw [show y.nd.leaf = false from HYl.out.symm]; rfl
          have el : yn = (key :: y.ks.tail).length := by have hyn := HYn.out; rw [List.length_cons, List.length_tail]; omega
          have hsy : NS ⟨false, a7, c7, key :: y.ks.tail, y.v, y.ia, y.ic, y.is⟩ := N.Bd.ns (m := 400) (by rw [← e]; exact N.joinB_bd HBy.out HRb.out.symm HKl.out) (by decide)
          rw [hnd, e, ← HV.out, el]
          exact nchange_any x ⟨false, a7, c7, key :: y.ks.tail, y.v, y.ia, y.ic, y.is⟩ kn kn w9 (HX.out.adds A6.out) HSx.out HJ.out.1 hsy (by rw [HKn.out]; exact Nat.le_refl _) (by rw [HKn.out]; exact Nat.le_refl _) (right_len HRa.out.symm).1 (right_len HRa.out.symm).2)
        clear hnd
        obtain ⟨x0, x1, _, _⟩ := box_cells X6.out
        go_wp2_with (first
          | (refine wpList_load_row rfl 28 _ rfl N0 rfl 28 _ _ _ X6.out Try.underlying28 rfl (info4 _ _ _ _) ?_)
          | (refine wpList_load_row rfl 28 _ rfl N1 rfl 28 _ _ _ Y6.out Try.underlying28 rfl (info4 _ _ _ _) ?_)
          | (go_at_call 55; refine HCh.out.mono ?_; rintro e w7 hp; obtain ⟨leaf, ka, kc, ks, va, vc, hs, ia, ic, zs, rfl, H7⟩ := hp.op; clear hp; have HWh := hid (whole_made (w1 := w) H7.out.1 H7.out.2.1 HBn.out A6.out.size))
          | (go_at_call 50; refine HWh.out.mono ?_; rintro e w8 ⟨leaf5, ka5, kc5, ks5, va5, vc5, hs5, ia5, ic5, zs5, rfl, H8⟩; have HB8 := hid (box_adds Z6.out (H7.out.2.2.trans H8.out.2.2)))
          | (refine wpList_store_row rfl 28 _ _ rfl N2 #[.bool leaf5, .slice ka5 ks5.length kc5, .slice va5 hs5.length vc5, .slice ia5 zs5.length ic5] rfl rfl 28 _ HB8.out (info4 _ _ _ _) rfl (one4 _ _ _ _ _ _ _ _ _ _) ?_))
        refine bodyPost_ret (results_n2 rfl _ _ N2 _ rfl (setRow_heap w8 N2 _ _ 28 _ HB8.out) rfl) rfl ?_
        rw [HE.out]
        exact ptnode_end (z := ⟨leaf5, ka5, kc5, ks5, ⟨va5, vc5, hs5⟩, ia5, ic5, zs5⟩) H8.out.1 rfl H8.out.2.1 ((A6.out.trans H7.out.2.2).trans H8.out.2.2) HB8.out HNe.out.2.2 _
end Go.Proofs.Ytplppnngmlljnaa

/- A node that is cut: both parts may be, are joined again, and fit. -/
namespace Go.Proofs.Ytplppnngmlljnaa
open Go.RowKit
namespace N
theorem taken_app : ∀ a b : List (List UInt8), M.taken (a ++ b) = M.taken a + M.taken b
  | [], b => by rw [List.nil_append]; show _ = 0 + _; omega
  | c :: a, b => by rw [List.cons_append, taken_cons, taken_cons, taken_app a b]; omega
theorem taken_cut (l : List (List UInt8)) (k : Nat) : M.taken l = M.taken (l.take k) + M.taken (l.drop k) := by rw [← taken_app, List.take_append_drop]
theorem mid_val (l : List (List UInt8)) : ∀ k, (mid l k).2 = unlike l (mid l k).1
  | 0 => by
    show M.taken l = (2 * (M.taken (l.take 0) : Int) - M.taken l).natAbs
    rw [List.take_zero, show M.taken [] = 0 from rfl]
    omega
  | k + 1 => by
    by_cases h : unlike l k < (mid l k).2
    · rw [mid_yes h]
    · rw [mid_no h]; exact mid_val l k
theorem mid_least (l : List (List UInt8)) : ∀ k j, j < k → (mid l k).2 ≤ unlike l j
  | 0, j, hj => absurd hj (Nat.not_lt_zero j)
  | k + 1, j, hj => by
    by_cases h : unlike l k < (mid l k).2
    · rw [mid_yes h]
      by_cases e : j = k
      · subst e; exact Nat.le_refl _
      · have := mid_least l k j (by omega)
        show unlike l k ≤ _
        omega
    · rw [mid_no h]
      by_cases e : j = k
      · subst e; omega
      · exact mid_least l k j (by omega)
theorem mid_less (l : List (List UInt8)) : ∀ k, 0 < k → (mid l k).1 < k
  | 0, h => absurd h (Nat.not_lt_zero 0)
  | k + 1, _ => by
    by_cases h : unlike l k < (mid l k).2
    · rw [mid_yes h]; exact Nat.lt_succ_self k
    · rw [mid_no h]
      exact Nat.lt_succ_of_le (mid_lt l k)
theorem taken_pos {l : List (List UInt8)} (h : 0 < l.length) : 2 ≤ M.taken l := by
  cases l with
  | nil => cases h
  | cons c l => rw [taken_cons]; omega
theorem mid_pos {l : List (List UInt8)} {k : Nat} (hk : 2 ≤ k) (hl : 2 ≤ l.length) : 0 < (mid l k).1 := by
  rcases Nat.eq_zero_or_pos (mid l k).1 with c | c
  · have h1 := mid_val l k
    have h2 := mid_least l k 1 (by omega)
    have h3 := taken_cut l 1
    have h4 : 2 ≤ M.taken (l.take 1) := taken_pos (by rw [List.length_take]; omega)
    have h5 : 2 ≤ M.taken (l.drop 1) := taken_pos (by rw [List.length_drop]; omega)
    rw [c] at h1
    unfold unlike at h1 h2
    rw [List.take_zero, show M.taken [] = 0 from rfl] at h1
    omega
  · exact c
/-- Of at most 341 bytes in cells of at most 93, the best place leaves at most 244 on either side. -/
theorem mid_fits {l : List (List UInt8)} (hl : 2 ≤ l.length) (hc : ∀ c ∈ l, c.length ≤ 91) (ht : M.taken l ≤ 341) : M.taken (l.take (mid l l.length).1) ≤ 244 ∧ M.taken (l.drop (mid l l.length).1) ≤ 244 := by
  have h0 := mid_pos (k := l.length) hl hl
  have h1 := mid_less l l.length (by omega)
  have hv := mid_val l l.length
  have hm := mid_least l l.length
  obtain ⟨m, hmm⟩ : ∃ m, m = (mid l l.length).1 := ⟨_, rfl⟩
  rw [← hmm] at h0 h1 hv ⊢
  have hT := taken_cut l m
  obtain ⟨a, rfl⟩ : ∃ a, m = a + 1 := ⟨m - 1, by omega⟩
  have hs := taken_snoc (l := l) (k := a) (by omega)
  have hs2 := taken_snoc (l := l) (k := a + 1) h1
  have hca : l[a].length ≤ 91 := hc _ (List.getElem_mem (by omega))
  have hcb : l[a + 1].length ≤ 91 := hc _ (List.getElem_mem h1)
  have hma := hm a (by omega)
  rw [hv] at hma hm
  unfold unlike at hma hm
  constructor
  · rcases Nat.lt_or_ge 244 (M.taken (l.take (a + 1))) with c | c
    · exfalso; omega
    · exact c
  · rcases Nat.lt_or_ge 244 (M.taken (l.drop (a + 1))) with c | c
    · exfalso
      by_cases hlast : a + 2 < l.length
      · have hmb := hm (a + 2) hlast
        rw [show a + 1 + 1 = a + 2 from rfl] at hs2
        omega
      · rw [List.drop_eq_getElem_cons h1, List.drop_eq_nil_of_le (by omega), taken_cons, show M.taken [] = 0 from rfl] at c
        omega
    · exact c
theorem keys_take {ks : List (List UInt8)} (h : keysOk ks = true) (m : Nat) : keysOk (ks.take m) = true := by
  refine keysOk_of (fun i hi => ?_) (fun i hi => ?_)
  · rw [List.length_take] at hi
    rw [List.getD_eq_getElem?_getD, List.getElem?_take, if_pos (by omega), ← List.getD_eq_getElem?_getD]
    exact keys_len h (by omega)
  · rw [List.length_take] at hi
    rw [List.getD_eq_getElem?_getD, List.getD_eq_getElem?_getD, List.getElem?_take, List.getElem?_take, if_pos (by omega), if_pos (by omega), ← List.getD_eq_getElem?_getD, ← List.getD_eq_getElem?_getD]
    exact rise_next h (by omega)
theorem drop_get (ks : List (List UInt8)) (m i : Nat) : (ks.drop m).getD i [] = ks.getD (m + i) [] := by
  rw [List.getD_eq_getElem?_getD, List.getElem?_drop, ← List.getD_eq_getElem?_getD]
theorem keys_drop {ks : List (List UInt8)} (h : keysOk ks = true) (m : Nat) : keysOk (ks.drop m) = true := by
  refine keysOk_of (fun i hi => ?_) (fun i hi => ?_)
  · rw [List.length_drop] at hi
    rw [drop_get]
    exact keys_len h (by omega)
  · rw [List.length_drop] at hi
    rw [drop_get, drop_get]
    exact rise_next h (i := m + i) (by omega)
theorem lt_empty {x y : List UInt8} (h : lt x y = true) : lt [] y = true := by
  cases y with
  | nil => rw [lt_nil] at h; cases h
  | cons b y => rfl
theorem keys_bare {ks : List (List UInt8)} (h : keysOk ks = true) (hl : 0 < ks.length) : keysOk ([] :: ks.tail) = true := by
  cases ks with
  | nil => cases hl
  | cons k l =>
    refine keysOk_of (fun i hi => ?_) (fun i hi => ?_)
    · cases i with
      | zero => exact Nat.zero_le _
      | succ i => exact keys_len h (i := i + 1) hi
    · cases i with
      | zero => exact lt_empty (rise_next h (i := 0) hi)
      | succ i => exact rise_next h (i := i + 1) hi
theorem all_take {α : Type} {P : α → Bool} {l : List α} (h : l.all P = true) (m : Nat) : (l.take m).all P = true := by
  rw [List.all_eq_true] at h ⊢
  exact fun x hx => h x (List.mem_of_mem_take hx)
theorem all_drop {α : Type} {P : α → Bool} {l : List α} (h : l.all P = true) (m : Nat) : (l.drop m).all P = true := by
  rw [List.all_eq_true] at h ⊢
  exact fun x hx => h x (List.mem_of_mem_drop hx)
/-- The parts, written out. -/
def partA (n : Nd) (m : Nat) : Nd := ⟨n.leaf, n.keys.take m, n.vals.take m, n.kids.take m⟩
def partB (n : Nd) (m : Nat) : Nd := ⟨n.leaf, if n.leaf = true then n.keys.drop m else [] :: (n.keys.drop m).tail, n.vals.drop m, n.kids.drop m⟩
theorem without_a {n : Nd} (h : right n = true) {m : Nat} (h0 : 0 < m) (hm : m < n.keys.length) : without n m n.keys.length = partA n m := by
  rcases (right_parts h).2 with ⟨q0, q1, q2, q3⟩ | ⟨q0, q1, q2, q3, q4, q5⟩
  · obtain ⟨l, ks, vs, zs⟩ := n
    have e3 : zs = [] := List.eq_nil_of_length_eq_zero q2
    have e0 : l = true := q0
    have e1 : vs.length = ks.length := q1
    subst e0 e3
    unfold without first change partA
    rw [if_neg (fun c => by cases c.1)]
    show (⟨true, ks.take m ++ ([] ++ ks.drop ks.length), vs.take m ++ ([] ++ vs.drop ks.length), []⟩ : Nd) = ⟨true, ks.take m, vs.take m, [].take m⟩
    rw [List.drop_length, ← e1, List.drop_length, List.take_nil, List.append_nil, List.append_nil, List.append_nil]
  · obtain ⟨l, ks, vs, zs⟩ := n
    have e3 : vs = [] := List.eq_nil_of_length_eq_zero q2
    have e0 : l = false := q0
    have e1 : zs.length = ks.length := q1
    subst e0 e3
    unfold without
    have ec : change ⟨false, ks, [], zs⟩ m ks.length nil = ⟨false, ks.take m, [], zs.take m⟩ := by
      show (⟨false, ks.take m ++ ([] ++ ks.drop ks.length), [], zs.take m ++ ([] ++ zs.drop ks.length)⟩ : Nd) = _
      rw [List.drop_length, ← e1, List.drop_length]
      simp only [List.append_nil]
    show first (change ⟨false, ks, [], zs⟩ m ks.length nil) = _
    rw [ec]
    unfold partA first
    have hm' : m < ks.length := hm
    rw [if_pos ⟨rfl, by show 0 < (ks.take m).length; rw [List.length_take]; omega⟩]
    cases ks with
    | nil => cases q4
    | cons k t =>
      have hk : k = [] := q5
      obtain ⟨m, rfl⟩ : ∃ i, m = i + 1 := ⟨m - 1, by omega⟩
      rw [hk]; simp
theorem without_b {n : Nd} (h : right n = true) {m : Nat} (hm : m < n.keys.length) : without n 0 m = partB n m := by
  rcases (right_parts h).2 with ⟨q0, q1, q2, q3⟩ | ⟨q0, q1, q2, q3, q4, q5⟩
  · obtain ⟨l, ks, vs, zs⟩ := n
    have e3 : zs = [] := List.eq_nil_of_length_eq_zero q2
    have e0 : l = true := q0
    subst e0 e3
    unfold without first change partB
    rw [if_neg (fun c => by cases c.1)]
    show (⟨true, ks.take 0 ++ ([] ++ ks.drop m), vs.take 0 ++ ([] ++ vs.drop m), []⟩ : Nd) = ⟨true, ks.drop m, vs.drop m, [].drop m⟩
    rw [List.drop_nil]; rfl
  · obtain ⟨l, ks, vs, zs⟩ := n
    have e3 : vs = [] := List.eq_nil_of_length_eq_zero q2
    have e0 : l = false := q0
    subst e0 e3
    have hm' : m < ks.length := hm
    unfold without first
    rw [if_pos ⟨rfl, by show 0 < (ks.take 0 ++ ([] ++ ks.drop m)).length; rw [List.take_zero, List.nil_append, List.nil_append, List.length_drop]; omega⟩]
    unfold partB
    show (⟨false, [] :: (ks.take 0 ++ ([] ++ ks.drop m)).tail, [], zs.take 0 ++ ([] ++ zs.drop m)⟩ : Nd) = ⟨false, [] :: (ks.drop m).tail, [].drop m, zs.drop m⟩
    rw [List.drop_nil]; rfl
theorem partA_right {n : Nd} (h : right n = true) {m : Nat} (h0 : 0 < m) (hm : m < n.keys.length) : right (partA n m) = true := by
  have hk := keys_take (right_parts h).1 m
  rcases (right_parts h).2 with ⟨q0, q1, q2, q3⟩ | ⟨q0, q1, q2, q3, q4, q5⟩
  · rw [right_leaf (n := partA n m) hk q0]
    show ((decide ((n.vals.take m).length = (n.keys.take m).length) && decide ((n.kids.take m).length = 0)) && valsOk (n.vals.take m)) = true
    unfold valsOk at q3 ⊢
    rw [all_take q3, decide_eq_true (by rw [List.length_take, List.length_take, q1]), decide_eq_true (by rw [List.length_take, q2]; omega)]; rfl
  · rw [right_inner (n := partA n m) hk q0]
    show (((decide (0 < (n.keys.take m).length) && ((n.keys.take m).getD 0 [] == [])) && (decide ((n.kids.take m).length = (n.keys.take m).length) && decide ((n.vals.take m).length = 0))) && kidsOk (n.kids.take m)) = true
    unfold kidsOk at q3 ⊢
    rw [all_take q3, decide_eq_true (by rw [List.length_take]; omega), decide_eq_true (by rw [List.length_take, List.length_take, q1]), decide_eq_true (by rw [List.length_take, q2]; omega),
      List.getD_eq_getElem?_getD, List.getElem?_take, if_pos h0, ← List.getD_eq_getElem?_getD, q5]; rfl
theorem partB_keys {n : Nd} (h : right n = true) {m : Nat} (hm : m < n.keys.length) : keysOk (partB n m).keys = true ∧ (partB n m).keys.length = n.keys.length - m := by
  have hd := keys_drop (right_parts h).1 m
  have hl : (n.keys.drop m).length = n.keys.length - m := List.length_drop
  show keysOk (if n.leaf = true then n.keys.drop m else [] :: (n.keys.drop m).tail) = true ∧ (if n.leaf = true then n.keys.drop m else [] :: (n.keys.drop m).tail).length = _
  split
  · exact ⟨hd, hl⟩
  · exact ⟨keys_bare hd (by omega), by rw [List.length_cons, List.length_tail]; omega⟩
theorem partB_right {n : Nd} (h : right n = true) {m : Nat} (hm : m < n.keys.length) : right (partB n m) = true := by
  obtain ⟨hk, hl⟩ := partB_keys h hm
  rcases (right_parts h).2 with ⟨q0, q1, q2, q3⟩ | ⟨q0, q1, q2, q3, q4, q5⟩
  · rw [right_leaf (n := partB n m) hk q0, hl]
    show ((decide ((n.vals.drop m).length = n.keys.length - m) && decide ((n.kids.drop m).length = 0)) && valsOk (n.vals.drop m)) = true
    unfold valsOk at q3 ⊢
    rw [all_drop q3, decide_eq_true (by rw [List.length_drop, q1]), decide_eq_true (by rw [List.length_drop, q2]; omega)]; rfl
  · rw [right_inner (n := partB n m) hk q0, hl]
    have e : (partB n m).keys.getD 0 [] = [] := by
      show (if n.leaf = true then n.keys.drop m else [] :: (n.keys.drop m).tail).getD 0 [] = []
      rw [q0]; rfl
    rw [e]
    show (((decide (0 < n.keys.length - m) && true) && (decide ((n.kids.drop m).length = n.keys.length - m) && decide ((n.vals.drop m).length = 0))) && kidsOk (n.kids.drop m)) = true
    unfold kidsOk at q3 ⊢
    rw [all_drop q3, decide_eq_true (by omega), decide_eq_true (by rw [List.length_drop, q1]), decide_eq_true (by rw [List.length_drop, q2]; omega)]; rfl
theorem join_parts {n : Nd} (h : right n = true) {m : Nat} (h0 : 0 < m) (hm : m < n.keys.length) : join (partA n m) (n.keys.getD m []) (partB n m) = (n, 0) := by
  have ha := partA_right h h0 hm
  have hb := partB_right h hm
  unfold join
  rw [if_neg (by rw [ha, hb]; exact fun c => c.elim (fun c => by cases c) (fun c => c.elim (fun c => by cases c) (fun c => c rfl)))]
  have hal : (partA n m).keys.length = m := by show (n.keys.take m).length = m; rw [List.length_take]; omega
  rw [hal]
  have e : change (partA n m) m m (if (partB n m).leaf then partB n m else { partB n m with keys := n.keys.getD m [] :: (partB n m).keys.tail }) = n := by
    have t1 : ∀ {α : Type} (l : List α), (l.take m).take m ++ (l.drop m ++ (l.take m).drop m) = l := fun l => by
      rw [List.take_take, Nat.min_self, List.drop_take, Nat.sub_self, List.take_zero, List.append_nil, List.take_append_drop]
    rcases (right_parts h).2 with ⟨q0, q1, q2, q3⟩ | ⟨q0, q1, q2, q3, q4, q5⟩
    · obtain ⟨l, ks, vs, zs⟩ := n
      have e3 : zs = [] := List.eq_nil_of_length_eq_zero q2
      have e0 : l = true := q0
      subst e0 e3
      show (⟨true, (ks.take m).take m ++ (ks.drop m ++ (ks.take m).drop m), (vs.take m).take m ++ (vs.drop m ++ (vs.take m).drop m), []⟩ : Nd) = _
      rw [t1, t1]
    · obtain ⟨l, ks, vs, zs⟩ := n
      have e3 : vs = [] := List.eq_nil_of_length_eq_zero q2
      have e0 : l = false := q0
      subst e0 e3
      have hm' : m < ks.length := hm
      have ed : ks.getD m [] :: (ks.drop m).tail = ks.drop m := by
        rw [List.drop_eq_getElem_cons hm', List.tail_cons, List.getD_eq_getElem?_getD, List.getElem?_eq_getElem hm']; rfl
      show (⟨false, (ks.take m).take m ++ ((ks.getD m [] :: (ks.drop m).tail) ++ (ks.take m).drop m), [], (zs.take m).take m ++ (zs.drop m ++ (zs.take m).drop m)⟩ : Nd) = _
      rw [ed, t1, t1]
  rw [e]
  unfold told
  rw [if_pos h]
theorem cell_a {n : Nd} {m i : Nat} (hi : i < m) : cell (partA n m) i = cell n i := by
  unfold cell
  show txt ((n.keys.take m).getD i []) ++ (if n.leaf = true then txt ((n.vals.take m).getD i []) else M.fix ((n.kids.take m).getD i 0).toNat 4) = _
  rw [List.getD_eq_getElem?_getD, List.getD_eq_getElem?_getD, List.getD_eq_getElem?_getD, List.getElem?_take, List.getElem?_take, List.getElem?_take, if_pos hi, if_pos hi, if_pos hi, ← List.getD_eq_getElem?_getD, ← List.getD_eq_getElem?_getD, ← List.getD_eq_getElem?_getD]
theorem cells_get (n : Nd) {i : Nat} (hi : i < n.keys.length) : (cells n)[i]? = some (cell n i) := by
  unfold cells
  rw [List.getElem?_map, List.getElem?_range hi]; rfl
theorem cells_a {n : Nd} {m : Nat} (hm : m < n.keys.length) : cells (partA n m) = (cells n).take m := by
  have hal : (partA n m).keys.length = m := by show (n.keys.take m).length = m; rw [List.length_take]; omega
  apply List.ext_getElem?
  intro i
  rw [List.getElem?_take]
  by_cases hi : i < m
  · rw [if_pos hi, cells_get _ (by omega), cells_get _ (by omega), cell_a hi]
  · rw [if_neg hi, List.getElem?_eq_none (by rw [len_cells]; omega)]
theorem cell_b {n : Nd} {m i : Nat} (hi : m + i < n.keys.length) : (cell (partB n m) i).length ≤ (cell n (m + i)).length := by
  unfold cell
  have e1 : (partB n m).vals.getD i [] = n.vals.getD (m + i) [] := by show (n.vals.drop m).getD i [] = _; rw [drop_get]
  have e2 : (partB n m).kids.getD i 0 = n.kids.getD (m + i) 0 := by
    show (n.kids.drop m).getD i 0 = _
    rw [List.getD_eq_getElem?_getD, List.getElem?_drop, ← List.getD_eq_getElem?_getD]
  have e3 : (partB n m).keys.getD i [] = n.keys.getD (m + i) [] ∨ (partB n m).keys.getD i [] = [] := by
    show (if n.leaf = true then n.keys.drop m else [] :: (n.keys.drop m).tail).getD i [] = _ ∨ (if n.leaf = true then n.keys.drop m else [] :: (n.keys.drop m).tail).getD i [] = _
    split
    · exact .inl (drop_get _ _ _)
    · cases i with
      | zero => exact .inr rfl
      | succ i =>
        refine .inl ?_
        show (n.keys.drop m).tail.getD i [] = _
        rw [List.tail_drop, drop_get, show m + 1 + i = m + (i + 1) by omega]
  rw [e1, e2]
  show (txt _ ++ (if n.leaf = true then _ else _)).length ≤ (txt _ ++ (if n.leaf = true then _ else _)).length
  rw [List.length_append, List.length_append]
  have hx : ∀ x : List UInt8, (txt []).length ≤ (txt x).length := fun x => by
    unfold txt
    rw [List.length_append, List.length_append]
    have : (M.enc ([] : List UInt8).length).length = 1 := rfl
    have h1 : 1 ≤ (M.enc x.length).length := by
      by_cases c : x.length < 128
      · rw [enc_len c]; exact Nat.le_refl _
      · rw [M.enc_big c, List.length_cons]; omega
    rw [this]
    show 1 + 0 ≤ _
    omega
  have : (txt ((partB n m).keys.getD i [])).length ≤ (txt (n.keys.getD (m + i) [])).length := by
    rcases e3 with e | e
    · rw [e]; exact Nat.le_refl _
    · rw [e]; exact hx _
  omega
theorem taken_le_of : ∀ (a b : List (List UInt8)), a.length = b.length → (∀ i, i < a.length → (a.getD i []).length ≤ (b.getD i []).length) → M.taken a ≤ M.taken b
  | [], [], _, _ => Nat.le_refl _
  | [], _ :: _, h, _ => by cases h
  | _ :: _, [], h, _ => by cases h
  | x :: a, y :: b, h, hi => by
    have h0 := hi 0 (Nat.succ_pos _)
    have ih := taken_le_of a b (by simpa using h) (fun i h => hi (i + 1) (by simpa using h))
    rw [taken_cons, taken_cons]
    have h0' : x.length ≤ y.length := h0
    omega
theorem cells_b {n : Nd} (h : right n = true) {m : Nat} (hm : m < n.keys.length) : M.taken (cells (partB n m)) ≤ M.taken ((cells n).drop m) := by
  have hl := (partB_keys h hm).2
  refine taken_le_of _ _ (by rw [len_cells, List.length_drop, len_cells, hl]) (fun i hi => ?_)
  rw [len_cells, hl] at hi
  rw [List.getD_eq_getElem?_getD, cells_get _ (by omega), List.getD_eq_getElem?_getD, List.getElem?_drop, cells_get _ (by omega)]
  exact cell_b (by omega)
theorem middle_in {n : Nd} (h2 : 2 ≤ n.keys.length) : 0 < middle n ∧ middle n < n.keys.length := by
  unfold middle
  exact ⟨mid_pos h2 (by rw [len_cells]; exact h2), mid_less _ _ (by omega)⟩
theorem halves_fit {n : Nd} (h : right n = true) (h2 : 2 ≤ n.keys.length) (ht : taken n ≤ 341) : taken (partA n (middle n)) ≤ 244 ∧ taken (partB n (middle n)) ≤ 244 := by
  obtain ⟨m0, m1⟩ := middle_in h2
  have q := mid_fits (l := cells n) (by rw [len_cells]; exact h2) (cells_all h) (by unfold taken at ht; rw [if_pos h] at ht; exact ht)
  rw [len_cells] at q
  show taken (partA n (middle n)) ≤ 244 ∧ taken (partB n (middle n)) ≤ 244
  unfold taken
  rw [if_pos (partA_right h m0 m1), if_pos (partB_right h m1), cells_a m1]
  exact ⟨q.1, Nat.le_trans (cells_b h m1) q.2⟩
end N
end Go.Proofs.Ytplppnngmlljnaa

/- NodeHalves. -/
namespace Go.Proofs.Ytplppnngmlljnaa
open Go.RowKit

/-- What a cut tells, the parts by name. -/
def PCd (w : World) (A B : N.Nd) (kA kB : Nat) (er : Int) (e : Ending) (w' : World) : Prop := ∃ (lA : Bool) (kaA : Option Addr) (kcA : Nat) (ksA : List (List UInt8)) (gA : Pl) (iaA : Option Addr) (icA : Nat) (isA : List Int) (lB : Bool) (kaB : Option Addr) (kcB : Nat) (ksB : List (List UInt8)) (gB : Pl) (iaB : Option Addr) (icB : Nat) (isB : List Int),
  e = .returned (.tuple #[.agg #[.bool lA, .slice kaA kA kcA, .slice gA.a gA.l.length gA.cap, .slice iaA isA.length icA], .agg #[.bool lB, .slice kaB kB kcB, .slice gB.a gB.l.length gB.cap, .slice iaB isB.length icB], .int .i64 er]) ∧ Hid ((kA = ksA.length ∧ kB = ksB.length) ∧ ((⟨lA, kaA, kcA, ksA, gA, iaA, icA, isA⟩ : NM).nd = A ∧ NOwn w' w.heap.size ⟨lA, kaA, kcA, ksA, gA, iaA, icA, isA⟩) ∧ ((⟨lB, kaB, kcB, ksB, gB, iaB, icB, isB⟩ : NM).nd = B ∧ NOwn w' w.heap.size ⟨lB, kaB, kcB, ksB, gB, iaB, icB, isB⟩) ∧ Adds w w')
theorem PCutN.nd {f : Nat} {args : Array Value} {w : World} {A B : N.Nd} {er : Nat} {kA kB : Nat} (h : Calls Try.prog f args w (PCutN w A B er)) (hA : A.keys.length = kA) (hB : B.keys.length = kB) : Calls Try.prog f args w (PCd w A B kA kB (er : Int)) := by
  refine h.mono ?_
  rintro e w' ⟨zA, zB, rfl, H⟩
  obtain ⟨⟨e1, o1⟩, ⟨e2, o2⟩, hA', _⟩ := H.out
  subst e1 e2 hA hB
  exact ⟨zA.leaf, zA.ka, zA.kc, zA.ks, zA.v, zA.ia, zA.ic, zA.is, zB.leaf, zB.ka, zB.kc, zB.ks, zB.v, zB.ia, zB.ic, zB.is, rfl, ⟨rfl, rfl⟩, ⟨rfl, o1⟩, ⟨rfl, o2⟩, hA'⟩
/-- Both parts put into blocks. -/
theorem boxed2 {w7 w8 : World} {N6 N7 : Nat} {a b : Array Value} (h6 : N6 = w7.heap.size) (h7 : N7 = N6 + 1) (hw : w8 = (((w7.alloc NZ).alloc NZ).setRow N6 a).setRow N7 b) : w8.heap[N6]? = some (.cells a 28) ∧ w8.heap[N7]? = some (.cells b 28) ∧ Adds w7 w8 ∧ ((w7.alloc NZ).alloc NZ).heap[N6]? = some NZ ∧ (((w7.alloc NZ).alloc NZ).setRow N6 a).heap[N7]? = some NZ := by
  have e1 : (w7.alloc NZ).heap.size = w7.heap.size + 1 := by simp
  have c6 : ((w7.alloc NZ).alloc NZ).heap[N6]? = some NZ := by rw [h6]; exact box_adds (heap_alloc_new w7 NZ) ((Touch.refl _ _).alloc _)
  have c7 : ((w7.alloc NZ).alloc NZ).heap[N7]? = some NZ := by rw [h7, h6, ← e1]; exact heap_alloc_new _ _
  have t1 := touch_row ((w7.alloc NZ).alloc NZ) N6 a
  have t2 := touch_row (((w7.alloc NZ).alloc NZ).setRow N6 a) N7 b
  have d7 : (((w7.alloc NZ).alloc NZ).setRow N6 a).heap[N7]? = some NZ := by rw [t1.block N7 (Array.getElem?_eq_some_iff.1 c7).1 (by omega)]; exact c7
  have d6 := setRow_heap ((w7.alloc NZ).alloc NZ) N6 _ a 28 _ c6
  refine ⟨?_, ?_, ?_, c6, d7⟩
  · rw [hw, t2.block N6 (Array.getElem?_eq_some_iff.1 d6).1 (by omega)]; exact d6
  · rw [hw]; exact setRow_heap _ N7 _ b 28 _ d7
  · rw [hw]; exact (((((Touch.refl _ w7).alloc _).alloc _).then t1 (fun j hj e => by omega)).then t2 (fun j hj e => by omega))
theorem N.taken_most {n : N.Nd} {m : Nat} (h : n.keys.length ≤ m) : N.taken n ≤ 93 * m := by
  unfold N.taken
  split
  · rename_i hr
    have q := ntaken_le (N.cells n) (cells_all hr)
    rw [len_cells] at q
    omega
  · exact Nat.zero_le _
theorem N.told_is (n : N.Nd) : N.told n = (n, 0) ∨ N.told n = (N.nil, 22) := by
  unfold N.told
  split
  · exact .inl rfl
  · exact .inr rfl
theorem remove_cases {n : N.Nd} (h : N.right n = true) {i : Nat} (hi : i < n.keys.length) : ∃ n1 : N.Nd, N.remove n (i : Int) = (n1, 0) ∨ N.remove n (i : Int) = (n1, 22) := by
  unfold N.remove
  rw [if_neg (by rw [h]; decide), if_neg (by omega)]
  rcases N.told_is (N.without n (i : Int).toNat ((i : Int).toNat + 1)) with e | e
  · exact ⟨_, .inl e⟩
  · exact ⟨_, .inr e⟩
/-- What a cut's parts are. -/
theorem cut_facts {n ndA ndB : N.Nd} {kA kB : Nat} (hr : N.right n = true) (h2 : 2 ≤ n.keys.length) (hb : N.Bd 200 n) (hA : ndA = N.cutA n) (hB : ndB = N.cutB n) (hkA : kA = ndA.keys.length) (hkB : kB = ndB.keys.length) :
    N.cutE n = 0 ∧ (kA + kB = n.keys.length ∧ 1 ≤ kA ∧ 1 ≤ kB) ∧ (N.right ndA = true ∧ N.right ndB = true) ∧ N.join ndA (n.keys.getD kA []) ndB = (n, 0) ∧ (N.taken n ≤ 341 → N.taken ndA ≤ 244 ∧ N.taken ndB ≤ 244) ∧ N.Bd 200 ndA ∧ N.Bd 200 ndB := by
  have hE : N.cutE n = 0 := by unfold N.cutE; rw [if_neg (by rw [hr]; decide), if_neg (by omega)]
  obtain ⟨m0, m1⟩ := N.middle_in h2
  have fit := N.halves_fit hr h2
  obtain ⟨m, hm⟩ : ∃ m, m = N.middle n := ⟨_, rfl⟩
  have eA : N.cutA n = N.without n (N.middle n) n.keys.length := by unfold N.cutA; rw [if_pos hE]
  have eB : N.cutB n = N.without n 0 (N.middle n) := by unfold N.cutB; rw [if_pos hE]
  rw [← hm] at m0 m1 eA eB fit
  have bA : N.Bd 200 ndA := by rw [hA, eA]; exact hb.without (by omega)
  have bB : N.Bd 200 ndB := by rw [hB, eB]; exact hb.without (by omega)
  rw [N.without_a hr m0 m1] at eA
  rw [N.without_b hr m1] at eB
  have ha : ndA = N.partA n m := by rw [hA, eA]
  have hb' : ndB = N.partB n m := by rw [hB, eB]
  have hkA' : kA = m := by rw [hkA, ha]; show (n.keys.take m).length = m; rw [List.length_take]; omega
  have hkB' : kB = n.keys.length - m := by rw [hkB, hb']; exact (N.partB_keys hr m1).2
  refine ⟨hE, by omega, ⟨by rw [ha]; exact N.partA_right hr m0 m1, by rw [hb']; exact N.partB_right hr m1⟩, ?_, ?_, bA, bB⟩
  · rw [ha, hb', hkA']; exact N.join_parts hr m0 m1
  · rw [ha, hb']; exact fit
theorem N.Bd.remove {m : Nat} {n : N.Nd} (h : N.Bd m n) {i : Nat} (hi : i < n.keys.length) : N.Bd m (N.remove n (i : Int)).1 := by
  unfold N.remove
  split
  · exact N.Bd.nil.mono (Nat.zero_le _)
  · rw [if_neg (by omega)]
    exact (h.without (by omega)).told
set_option maxRecDepth 100000 in
set_option maxHeartbeats 8000000 in
theorem halves14 (x : NM) (w : World) {Q : Nat → Prop} (h : NQ w Q x) (hbig : NBig x) : Calls Try.prog 7 #[x.val] w (Adding (.bool true) w) := by
  obtain ⟨xl, xka, xkc, xks, xg, xia, xic, xis⟩ := x
  have HQ := hid h
  obtain ⟨n, hn⟩ : ∃ n, n = (⟨xl, xka, xkc, xks, xg, xia, xic, xis⟩ : NM).nd := ⟨_, rfl⟩
  have HN := hid hn
  obtain ⟨gr, hgr⟩ : ∃ gr, gr = N.great n := ⟨_, rfl⟩
  obtain ⟨kn, hkn⟩ : ∃ k, k = xks.length := ⟨_, rfl⟩
  have hkn2 : n.keys.length = kn := by rw [hn, hkn]; rfl
  have HKn := hid hkn2
  have HW := hid (fun w' => works14 w')
  have HG := hid (fun w' (hA : Adds w w') => show Calls Try.prog 9 #[.agg #[.bool xl, .slice xka kn xkc, .slice xg.a xg.l.length xg.cap, .slice xia xis.length xic]] w' (Adding (.bool gr) w') by rw [hgr, hn, hkn]; exact great_any _ w' (h.adds hA))
  have HC := hid (fun w' (hA : Adds w w') => show Calls Try.prog 10 #[.agg #[.bool xl, .slice xka kn xkc, .slice xg.a xg.l.length xg.cap, .slice xia xis.length xic]] w' (PNd w' n) by rw [hn, hkn]; exact PNode.nd (copied_big _ w' (h.adds hA) hbig))
  have HGr := hid hgr
  show Calls Try.prog 7 #[.agg #[.bool xl, .slice xka xks.length xkc, .slice xg.a xg.l.length xg.cap, .slice xia xis.length xic]] w (Adding (.bool true) w)
  rw [← hkn]
  clear h hgr hbig hkn2
  obtain ⟨N0, hN0⟩ : ∃ N0, N0 = w.heap.size := ⟨_, rfl⟩
  obtain ⟨w1, hw1⟩ : ∃ w1, w1 = w.alloc (.cells #[.bool xl, .slice xka kn xkc, .slice xg.a xg.l.length xg.cap, .slice xia xis.length xic] 26) := ⟨_, rfl⟩
  have A1 := hid (show Adds w w1 by rw [hw1]; exact (Touch.refl _ w).alloc _)
  have X1 := hid (show w1.heap[N0]? = some (.cells #[.bool xl, .slice xka kn xkc, .slice xg.a xg.l.length xg.cap, .slice xia xis.length xic] 26) by rw [hw1, hN0]; exact heap_alloc_new w _)
  have HXk := hid hkn
  clear hkn hn
  go_enter Try.func7, Try.ntmps7
  go_upto_region 1 with fail
  rw [← hw1, ← hN0]
  clear hw1 hN0
  go_upto_region 3 with (go_at_call 21; refine (HW.out w1).mono ?_; rintro e w2 ⟨rfl, hA2⟩; have A2 := hid (A1.out.trans hA2); have X2 := hid (box_adds X1.out hA2); clear hA2)
  clear HW
  cases gr with
  | true =>
    go_wp2_with (first
      | (refine wpList_load_row rfl 26 _ rfl N0 rfl 26 _ _ _ X2.out Try.underlying26 rfl (infoR4 _ _ _ _) ?_)
      | (go_at_call 9; refine (HG.out w2 A2.out).mono ?_; rintro e w6 ⟨rfl, hA6⟩; have A6 := hid (A2.out.trans hA6); clear hA6))
    go_ret
    exact ⟨rfl, A6.out⟩
  | false =>
  have HB2 := hid (show N.Bd 200 n by have q := HGr.out; rw [HN.out] at q ⊢; exact great_200 q.symm)
  have HS := hid (show NS ⟨xl, xka, xkc, xks, xg, xia, xic, xis⟩ from N.Bd.ns (m := 900) (by rw [← HN.out]; exact HB2.out.mono (by decide)) (by decide))
  have hk9 : kn ≤ 200 := by rw [← HKn.out]; exact HB2.out.k
  go_upto_region 5 with (first
    | (refine wpList_load_row rfl 26 _ rfl N0 rfl 26 _ _ _ X2.out Try.underlying26 rfl (infoR4 _ _ _ _) ?_)
    | (go_at_call 9; refine (HG.out w2 A2.out).mono ?_; rintro e w3 ⟨rfl, hA3⟩; have A3 := hid (A2.out.trans hA3); have X3 := hid (box_adds X2.out hA3); clear hA3))
  clear HG
  go_upto_region 6 with (first
    | (refine wpList_load_row rfl 26 _ rfl N0 rfl 26 _ _ _ X3.out Try.underlying26 rfl (infoR4 _ _ _ _) ?_)
    | (go_at_call 10; refine (HC.out w3 A3.out).mono ?_; rintro e w4 ⟨l, ka, kc, ks, g, ia, ic, is, rfl, H4⟩)
    | (refine wpList_store_row rfl 28 _ _ rfl _ #[.bool l, .slice ka ks.length kc, .slice g.a g.l.length g.cap, .slice ia is.length ic] rfl rfl 28 _ (heap_alloc_new _ _) (info4 _ _ _ _) rfl (one4 _ _ _ _ _ _ _ _ _ _) ?_))
  clear HC
  obtain ⟨N5, hN5⟩ : ∃ N5, N5 = w4.heap.size := ⟨_, rfl⟩
  rw [← hN5]
  obtain ⟨w5, hw5⟩ : ∃ w5, w5 = (w4.alloc NZ).setRow N5 #[.bool l, .slice ka ks.length kc, .slice g.a g.l.length g.cap, .slice ia is.length ic] := ⟨_, rfl⟩
  have HB := hid (boxed H4.out hN5 hw5)
  rw [← hw5]
  clear hw5 hN5
  have A5 := hid (A3.out.trans HB.out.2.2)
  have X5 := hid (box_adds X3.out HB.out.2.2)
  have Y5 := hid HB.out.2.1
  have HZ := hid H4.out.1
  have HZs := hid (show NS ⟨l, ka, kc, ks, g, ia, ic, is⟩ from N.Bd.ns (m := 900) (by rw [HZ.out]; exact HB2.out.mono (by decide)) (by decide))
  obtain ⟨r, hr⟩ : ∃ r, r = N.right n := ⟨_, rfl⟩
  have HR1 := hid (fun w' (hA : Adds w5 w') => show Calls Try.prog 15 #[.agg #[.bool l, .slice ka ks.length kc, .slice g.a g.l.length g.cap, .slice ia is.length ic]] w' (Adding (.bool r) w') by
    have q := nright_any ⟨l, ka, kc, ks, g, ia, ic, is⟩ w' (HB.out.1.adds hA).nq HZs.out
    rw [HZ.out, ← hr] at q
    exact q)
  have HRr := hid hr
  obtain ⟨er, her⟩ : ∃ e, e = N.cutE n := ⟨_, rfl⟩
  obtain ⟨ndA, hndA⟩ : ∃ a, a = N.cutA n := ⟨_, rfl⟩
  obtain ⟨ndB, hndB⟩ : ∃ a, a = N.cutB n := ⟨_, rfl⟩
  obtain ⟨kA, hkA⟩ : ∃ a, a = ndA.keys.length := ⟨_, rfl⟩
  obtain ⟨kB, hkB⟩ : ∃ a, a = ndB.keys.length := ⟨_, rfl⟩
  have HCut := hid (fun w' (hA : Adds w5 w') => show Calls Try.prog 29 #[.agg #[.bool l, .slice ka ks.length kc, .slice g.a g.l.length g.cap, .slice ia is.length ic]] w' (PCd w' ndA ndB kA kB (er : Int)) by
    have q := ncut_any ⟨l, ka, kc, ks, g, ia, ic, is⟩ w' (HB.out.1.adds hA).nq (by rw [HZ.out]; exact HB2.out.mono (by decide))
    rw [HZ.out, ← her, ← hndA, ← hndB] at q
    exact PCutN.nd q hkA.symm hkB.symm)
  have HE := hid her
  have HAB := hid (And.intro hndA (And.intro hndB (And.intro hkA hkB)))
  clear hr her hndA hndB hkA hkB
  go_upto_region 7 with (first
    | (refine wpList_load_row rfl 28 _ rfl N5 rfl 28 _ _ _ Y5.out Try.underlying28 rfl (info4 _ _ _ _) ?_)
    | (go_at_call 29; refine (HCut.out w5 (Touch.refl _ _)).mono ?_; rintro e w7 ⟨lA, kaA, kcA, ksA, gA, iaA, icA, isA, lB, kaB, kcB, ksB, gB, iaB, icB, isB, rfl, H7⟩)
    | (refine wpList_store_row rfl 28 _ _ rfl w7.heap.size #[.bool lA, .slice kaA kA kcA, .slice gA.a gA.l.length gA.cap, .slice iaA isA.length icA] rfl rfl 28 _ (boxed2 (a := #[.bool lA, .slice kaA kA kcA, .slice gA.a gA.l.length gA.cap, .slice iaA isA.length icA]) (b := #[.bool lB, .slice kaB kB kcB, .slice gB.a gB.l.length gB.cap, .slice iaB isB.length icB]) rfl rfl rfl).2.2.2.1 (info4 _ _ _ _) rfl (one4 _ _ _ _ _ _ _ _ _ _) ?_)
    | (refine wpList_store_row rfl 28 _ _ rfl (w7.heap.size + 1) #[.bool lB, .slice kaB kB kcB, .slice gB.a gB.l.length gB.cap, .slice iaB isB.length icB] rfl rfl 28 _ (boxed2 (a := #[.bool lA, .slice kaA kA kcA, .slice gA.a gA.l.length gA.cap, .slice iaA isA.length icA]) (b := #[.bool lB, .slice kaB kB kcB, .slice gB.a gB.l.length gB.cap, .slice iaB isB.length icB]) rfl rfl rfl).2.2.2.2 (info4 _ _ _ _) rfl (one4 _ _ _ _ _ _ _ _ _ _) ?_))
  clear HCut
  obtain ⟨NA, hNA⟩ : ∃ N, N = w7.heap.size := ⟨_, rfl⟩
  obtain ⟨NB, hNB⟩ : ∃ N, N = NA + 1 := ⟨_, rfl⟩
  obtain ⟨w8, hw8⟩ : ∃ w8, w8 = (((w7.alloc NZ).alloc NZ).setRow NA #[.bool lA, .slice kaA kA kcA, .slice gA.a gA.l.length gA.cap, .slice iaA isA.length icA]).setRow NB #[.bool lB, .slice kaB kB kcB, .slice gB.a gB.l.length gB.cap, .slice iaB isB.length icB] := ⟨_, rfl⟩
  have HBX := hid (boxed2 hNA hNB hw8)
  rw [← hNA, ← hNB, ← hw8]
  clear hw8 hNA hNB
  have A57 := hid (H7.out.2.2.2)
  have A58 := hid (A57.out.trans HBX.out.2.2.1)
  have A8 := hid (A5.out.trans A58.out)
  have X8 := hid (box_adds X5.out A58.out)
  have Y8 := hid (box_adds Y5.out A58.out)
  have NA8 := hid HBX.out.1
  have NB8 := hid HBX.out.2.1
  have HR8 := hid (HR1.out w8 A58.out)
  cases r with
  | false =>
    obtain rfl : er = 22 := by rw [HE.out]; unfold N.cutE; rw [← HRr.out]; rfl
    go_wp2_with (first
      | (refine wpList_load_row rfl 28 _ rfl N5 rfl 28 _ _ _ Y8.out Try.underlying28 rfl (info4 _ _ _ _) ?_)
      | (go_at_call 15; refine HR8.out.mono ?_; rintro e w9 ⟨rfl, hA9⟩; have A9 := hid hA9; clear hA9))
    go_ret
    exact ⟨rfl, A8.out.trans A9.out⟩
  | true =>
  by_cases h2 : kn < 2
  · obtain rfl : er = 40 := by rw [HE.out]; unfold N.cutE; rw [← HRr.out, if_neg (by decide), if_pos (by rw [HKn.out]; exact h2)]
    have h2z : (kn : Int) < 2 := by omega
    have h2d : decide ((kn : Int) < 2) = true := decide_eq_true h2z
    go_wp2_with (first
      | (refine wpList_load_row rfl 28 _ rfl N5 rfl 28 _ _ _ Y8.out Try.underlying28 rfl (info4 _ _ _ _) ?_)
      | (go_at_call 15; refine HR8.out.mono ?_; rintro e w9 ⟨rfl, hA9⟩; have A9 := hid hA9; obtain ⟨_, x1, _, _⟩ := box_cells (box_adds X8.out hA9); clear hA9))
    go_ret
    exact ⟨rfl, A8.out.trans A9.out⟩
  have HF := hid (cut_facts HRr.out.symm (show 2 ≤ n.keys.length by rw [HKn.out]; omega) HB2.out HAB.out.1 HAB.out.2.1 HAB.out.2.2.1 HAB.out.2.2.2)
  obtain rfl : er = 0 := by rw [HE.out]; exact HF.out.1
  have hab : kA + kB = kn ∧ 1 ≤ kA ∧ 1 ≤ kB := by have q := HF.out.2.1; rw [HKn.out] at q; exact q
  have ha0 : ¬ ((kA : Int) = 0) := by omega
  have ha0d : decide ((kA : Int) = 0) = false := decide_eq_false ha0
  have hb0 : ¬ ((kB : Int) = 0) := by omega
  have hb0d : decide ((kB : Int) = 0) = false := decide_eq_false hb0
  have hs : (kA : Int) + (kB : Int) = (kn : Int) := by omega
  have ha0e : ((kA : Int) == 0) = false := by simp; omega
  have hb0e : ((kB : Int) == 0) = false := by simp; omega
  have hse : ((kA : Int) + (kB : Int) == (kn : Int)) = true := by rw [hs]; simp
  have hka9 : kA ≤ 200 := by omega
  have hkb9 : kB ≤ 200 := by omega
  have OA := hid (H7.out.2.1.2.adds HBX.out.2.2.1)
  have OB := hid (H7.out.2.2.1.2.adds HBX.out.2.2.1)
  have EA := hid H7.out.2.1.1
  have EB := hid H7.out.2.2.1.1
  have KA := hid H7.out.1
  have SA := hid (show NS ⟨lA, kaA, kcA, ksA, gA, iaA, icA, isA⟩ from N.Bd.ns (m := 200) (by rw [EA.out]; exact HF.out.2.2.2.2.2.1) (by decide))
  have SB := hid (show NS ⟨lB, kaB, kcB, ksB, gB, iaB, icB, isB⟩ from N.Bd.ns (m := 200) (by rw [EB.out]; exact HF.out.2.2.2.2.2.2) (by decide))
  have HRA := hid (fun w' (hA : Adds w8 w') => show Calls Try.prog 15 #[.agg #[.bool lA, .slice kaA kA kcA, .slice gA.a gA.l.length gA.cap, .slice iaA isA.length icA]] w' (Adding (.bool true) w') by
    have q := nright_any ⟨lA, kaA, kcA, ksA, gA, iaA, icA, isA⟩ w' (OA.out.adds hA).nq SA.out
    rw [EA.out, HF.out.2.2.1.1] at q
    rw [KA.out.1]
    exact q)
  have HRB := hid (fun w' (hA : Adds w8 w') => show Calls Try.prog 15 #[.agg #[.bool lB, .slice kaB kB kcB, .slice gB.a gB.l.length gB.cap, .slice iaB isB.length icB]] w' (Adding (.bool true) w') by
    have q := nright_any ⟨lB, kaB, kcB, ksB, gB, iaB, icB, isB⟩ w' (OB.out.adds hA).nq SB.out
    rw [EB.out, HF.out.2.2.1.2] at q
    rw [KA.out.2]
    exact q)
  obtain ⟨_, x1, _, _⟩ := box_cells X8.out
  obtain ⟨_, a1, _, _⟩ := box_cells NA8.out
  obtain ⟨_, b1, _, _⟩ := box_cells NB8.out
  clear HR8 HR1 h2
  go_upto_region 11 with (first
    | (refine wpList_load_g (by rfl) 28 _ rfl NA 0 rfl [.bool lA, .slice kaA kA kcA, .slice gA.a gA.l.length gA.cap, .slice iaA isA.length icA] _ (rng_of NA8.out) Try.underlying28 rfl infoN.out ?_)
    | (refine wpList_load_g (by rfl) 28 _ rfl NB 0 rfl [.bool lB, .slice kaB kB kcB, .slice gB.a gB.l.length gB.cap, .slice iaB isB.length icB] _ (rng_of (box_adds NB8.out A9.out)) Try.underlying28 rfl infoN.out ?_)
    | (go_at_call 15; refine (HRB.out w9 A9.out).mono ?_; rintro e w10 ⟨rfl, hA10⟩; have A10 := hid (A9.out.trans hA10); clear hA10)
    | (go_at_call 15; refine (HRA.out w8 (Touch.refl _ _)).mono ?_; rintro e w9 ⟨rfl, hA9⟩; have A9 := hid hA9; clear hA9))
  clear x1 a1 b1 HRA HRB ha0 ha0d hb0 hb0d hs ha0e hb0e hse
  have X10 := hid (box_adds X8.out A10.out)
  have Y10 := hid (box_adds Y8.out A10.out)
  have NA10 := hid (box_adds NA8.out A10.out)
  have NB10 := hid (box_adds NB8.out A10.out)
  have OA10 := hid (OA.out.adds A10.out)
  have OB10 := hid (OB.out.adds A10.out)
  have T10 := hid (A8.out.trans A10.out)
  clear X8 NA8 NB8 OA OB
  obtain ⟨key, hkey⟩ : ∃ k, k = xks.getD kA [] := ⟨_, rfl⟩
  have hkx : kA < xks.length := by rw [← HXk.out]; omega
  obtain ⟨b, o, ea, hc0⟩ := HQ.out.key (i := kA) hkx
  rw [show (⟨xl, xka, xkc, xks, xg, xia, xic, xis⟩ : NM).ks.getD kA [] = key from hkey.symm] at hc0
  have ea' : xka = some ⟨b, o, none⟩ := ea
  have HHc := hid hc0
  have HJn := hid (fun (w' : World) (hA : Adds w10 w') => show Calls Try.prog 31 #[.agg #[.bool lA, .slice kaA kA kcA, .slice gA.a gA.l.length gA.cap, .slice iaA isA.length icA], .string ⟨key.toArray⟩, .agg #[.bool lB, .slice kaB kB kcB, .slice gB.a gB.l.length gB.cap, .slice iaB isB.length icB]] w' (PTnd w' n 0) by
    have hj : N.join ndA key ndB = (n, 0) := by
      have q := HF.out.2.2.2.1
      rw [HN.out] at q ⊢
      rw [hkey]; exact q
    have hkl : key.length ≤ 1000 := by
      have q := right_key HRr.out.symm (i := kA) (by rw [HKn.out]; omega)
      rw [hkey]
      rw [HN.out] at q
      exact Nat.le_trans q (by decide)
    rw [KA.out.1, KA.out.2]
    exact PTnode.nd (njoin_any ⟨lA, kaA, kcA, ksA, gA, iaA, icA, isA⟩ ⟨lB, kaB, kcB, ksB, gB, iaB, icB, isB⟩ key w' (OA10.out.adds hA).nq (OB10.out.adds hA).nq (by rw [EA.out]; exact HF.out.2.2.2.2.2.1.mono (by decide)) (by rw [EB.out]; exact HF.out.2.2.2.2.2.2.mono (by decide)) hkl) (by rw [EA.out, EB.out]; exact hj))
  have HSm := hid (fun (w' w0 : World) (z : NM) (hA : Adds w w') (hz : z.nd = n) (ho : NOwn w' w0.heap.size z) => show Calls Try.prog 20 #[z.val, .agg #[.bool xl, .slice xka kn xkc, .slice xg.a xg.l.length xg.cap, .slice xia xis.length xic]] w' (Adding (.bool true) w') by
    have q := same_any z ⟨xl, xka, xkc, xks, xg, xia, xic, xis⟩ w' ho.nq (HQ.out.adds hA) (N.Bd.ns (m := 900) (by rw [hz]; exact HB2.out.mono (by decide)) (by decide)) HS.out
    rw [hz, ← HN.out, N.same_refl] at q
    rw [HXk.out]
    exact q)
  have hlt : (kA : Int) < (kn : Int) := by omega
  clear hkey hc0 ea
  subst ea'
  go_cut [7, 8] (fun p7 t8 wx => ∃ (N7 : Nat) (lJ : Bool) (kaJ : Option Addr) (kcJ : Nat) (ksJ : List (List UInt8)) (gJ : Pl) (iaJ : Option Addr) (icJ : Nat) (isJ : List Int), p7 = .pointer (some ⟨N7, 0, none⟩) ∧ t8 = .int .i64 0 ∧ Hid (wx.heap[N7]? = some (.cells #[.bool lJ, .slice kaJ ksJ.length kcJ, .slice gJ.a gJ.l.length gJ.cap, .slice iaJ isJ.length icJ] 28 (0, 0)) ∧ (⟨lJ, kaJ, kcJ, ksJ, gJ, iaJ, icJ, isJ⟩ : NM).nd = n ∧ NOwn wx w10.heap.size ⟨lJ, kaJ, kcJ, ksJ, gJ, iaJ, icJ, isJ⟩ ∧ Adds w10 wx))
  case first =>
    refine Pe_begin (S := fun W : World => Adds w10 W) (X := 16) (by kernel_rfl) ?_
    have hS : (fun W : World => Adds w10 W) w10.drew := adds_dr w10
    refine Pe_put (i := 0) 69 (v := .agg #[.bool lA, .slice kaA kA kcA, .slice gA.a gA.l.length gA.cap, .slice iaA isA.length icA]) rfl rfl (by kernel_rfl) (by kernel_rfl) (by kernel_rfl) (by kernel_rfl) (fun _ _ _ h => h) (Or.inl ⟨by rfl, fun w' hw' => ?_⟩) hS ?_
    · (obtain ⟨c0, c1, c2, c3⟩ := box_cells (box_adds NA10.out hw'); clear hw'; go_simp)
    simp only [Act.put, List.setIfInBounds_toArray, List.set_cons_zero, List.set_cons_succ]
    refine Pe_put (i := 1) 70 (v := .pointer (some ⟨N0, 1, none⟩)) rfl rfl (by kernel_rfl) (by kernel_rfl) (by kernel_rfl) (by kernel_rfl) (fun _ _ _ h => h) (Or.inl ⟨by rfl, fun w' hw' => ?_⟩) hS ?_
    · go_simp
    simp only [Act.put, List.setIfInBounds_toArray, List.set_cons_zero, List.set_cons_succ]
    refine Pe_put (i := 2) 71 (v := .slice (some ⟨b, o, none⟩) kn xkc) rfl rfl (by kernel_rfl) (by kernel_rfl) (by kernel_rfl) (by kernel_rfl) (fun _ _ _ h => h) (Or.inl ⟨by rfl, fun w' hw' => ?_⟩) hS ?_
    · (obtain ⟨_, c1, _, _⟩ := box_cells (box_adds X10.out hw'); clear hw'; go_simp)
    simp only [Act.put, List.setIfInBounds_toArray, List.set_cons_zero, List.set_cons_succ]
    refine Pe_put (i := 3) 72 (v := .pointer (some ⟨NA, 1, none⟩)) rfl rfl (by kernel_rfl) (by kernel_rfl) (by kernel_rfl) (by kernel_rfl) (fun _ _ _ h => h) (Or.inl ⟨by rfl, fun w' hw' => ?_⟩) hS ?_
    · go_simp
    simp only [Act.put, List.setIfInBounds_toArray, List.set_cons_zero, List.set_cons_succ]
    refine Pe_put (i := 4) 73 (v := .slice kaA kA kcA) rfl rfl (by kernel_rfl) (by kernel_rfl) (by kernel_rfl) (by kernel_rfl) (fun _ _ _ h => h) (Or.inl ⟨by rfl, fun w' hw' => ?_⟩) hS ?_
    · (obtain ⟨_, c1, _, _⟩ := box_cells (box_adds NA10.out hw'); clear hw'; go_simp)
    simp only [Act.put, List.setIfInBounds_toArray, List.set_cons_zero, List.set_cons_succ]
    refine Pe_put (i := 5) 74 (v := .int .i64 (kA : Int)) rfl rfl (by kernel_rfl) (by kernel_rfl) (by kernel_rfl) (by kernel_rfl) (fun _ _ _ h => h) (Or.inl ⟨by rfl, fun w' hw' => ?_⟩) hS ?_
    · go_simp
    simp only [Act.put, List.setIfInBounds_toArray, List.set_cons_zero, List.set_cons_succ]
    refine Pe_put (i := 6) 75 (v := .pointer (some ⟨b, o + kA, none⟩)) rfl rfl (by kernel_rfl) (by kernel_rfl) (by kernel_rfl) (by kernel_rfl) (fun _ _ _ h => h) (Or.inl ⟨by rfl, fun w' hw' => ?_⟩) hS ?_
    · go_simp
    simp only [Act.put, List.setIfInBounds_toArray, List.set_cons_zero, List.set_cons_succ]
    refine Pe_put (i := 7) 76 (v := .string ⟨key.toArray⟩) rfl rfl (by kernel_rfl) (by kernel_rfl) (by kernel_rfl) (by kernel_rfl) (fun _ _ _ h => h) (Or.inl ⟨by rfl, fun w' hw' => ?_⟩) hS ?_
    · (have c : w'.cell? ⟨b, o + kA, none⟩ = some (.string ⟨key.toArray⟩) := below_adds (T10.out.trans hw') HHc.out; clear hw'; go_simp)
    simp only [Act.put, List.setIfInBounds_toArray, List.set_cons_zero, List.set_cons_succ]
    refine Pe_put (i := 8) 77 (v := .agg #[.bool lB, .slice kaB kB kcB, .slice gB.a gB.l.length gB.cap, .slice iaB isB.length icB]) rfl rfl (by kernel_rfl) (by kernel_rfl) (by kernel_rfl) (by kernel_rfl) (fun _ _ _ h => h) (Or.inl ⟨by rfl, fun w' hw' => ?_⟩) hS ?_
    · (obtain ⟨c0, c1, c2, c3⟩ := box_cells (box_adds NB10.out hw'); clear hw'; go_simp)
    simp only [Act.put, List.setIfInBounds_toArray, List.set_cons_zero, List.set_cons_succ]
    refine Pe_all (rs := [9, 13]) (by kernel_rfl) (by simp) (fun jj hj => ?_)
    simp only [List.mem_cons, List.not_mem_nil, or_false] at hj
    rcases hj with rfl | rfl
    · refine EO_call 78 31 #[.agg #[.bool lA, .slice kaA kA kcA, .slice gA.a gA.l.length gA.cap, .slice iaA isA.length icA], .string ⟨key.toArray⟩, .agg #[.bool lB, .slice kaB kB kcB, .slice gB.a gB.l.length gB.cap, .slice iaB isB.length icB]] rfl rfl (by rfl) (by go_simp) (HJn.out _ hS) ?_
      rintro e w11 ⟨lJ, kaJ, kcJ, ksJ, gJ, iaJ, icJ, isJ, rfl, H11⟩
      have hS2 : (fun W : World => Adds w10 W) w11 := hS.trans H11.out.2.2
      refine ⟨_, rfl, hS2, ?_⟩
      clear hS; have hS := hS2; clear hS2
      simp only [Act.put, List.setIfInBounds_toArray, List.set_cons_zero, List.set_cons_succ]
      refine Pe_put (i := 10) 68 (v := .tuple #[.agg #[.bool lJ, .slice kaJ ksJ.length kcJ, .slice gJ.a gJ.l.length gJ.cap, .slice iaJ isJ.length icJ], .int .i64 0]) rfl rfl (by kernel_rfl) (by kernel_rfl) (by kernel_rfl) (by kernel_rfl) (fun _ _ _ h => h) (Or.inl ⟨by rfl, fun w' hw' => ?_⟩) hS ?_
      · go_simp
      simp only [Act.put, List.setIfInBounds_toArray, List.set_cons_zero, List.set_cons_succ]
      refine Pe_put (i := 11) 79 (v := .agg #[.bool lJ, .slice kaJ ksJ.length kcJ, .slice gJ.a gJ.l.length gJ.cap, .slice iaJ isJ.length icJ]) rfl rfl (by kernel_rfl) (by kernel_rfl) (by kernel_rfl) (by kernel_rfl) (fun _ _ _ h => h) (Or.inl ⟨by rfl, fun w' hw' => ?_⟩) hS ?_
      · go_simp
      simp only [Act.put, List.setIfInBounds_toArray, List.set_cons_zero, List.set_cons_succ]
      refine Pe_put (i := 12) 80 (v := .int .i64 0) rfl rfl (by kernel_rfl) (by kernel_rfl) (by kernel_rfl) (by kernel_rfl) (fun _ _ _ h => h) (Or.inl ⟨by rfl, fun w' hw' => ?_⟩) hS ?_
      · go_simp
      simp only [Act.put, List.setIfInBounds_toArray, List.set_cons_zero, List.set_cons_succ]
      refine Pe_all (rs := [13]) (by kernel_rfl) (by simp) (fun jj hj => ?_)
      obtain rfl := List.mem_singleton.1 hj
      have hS2 : (fun W : World => Adds w10 W) (w11.alloc NZ) := hS.alloc _
      refine EO_value 7 (v := .pointer (some ⟨w11.heap.size, 0, none⟩)) (w' := w11.alloc NZ) rfl rfl (by rfl) (by go_simp) hS2 ?_
      simp only [Act.put, List.setIfInBounds_toArray, List.set_cons_zero, List.set_cons_succ]
      have HEnd := hid (boxed (w := w10.drew) (w1 := w10) (w7 := w11) ⟨H11.out.1, H11.out.2.1, hS⟩ rfl rfl)
      refine Pe_do (i := 14) none (by kernel_rfl) rfl rfl rfl (fun K' hK => ?_)
      refine Go.wp_store_row 28 _ _ rfl w11.heap.size #[.bool lJ, .slice kaJ ksJ.length kcJ, .slice gJ.a gJ.l.length gJ.cap, .slice iaJ isJ.length icJ] rfl rfl 28 _ (heap_alloc_new w11 _) (info4 _ _ _ _) rfl (one4 _ _ _ _ _ _ _ _ _ _) ?_
      have hS2 := HEnd.out.2.2
      refine hK _ _ (fun _ => hS2) ?_
      simp only [Act.put]
      refine Pe_put (i := 15) 8 (v := .int .i64 0) rfl rfl (by kernel_rfl) (by kernel_rfl) (by kernel_rfl) (by kernel_rfl) (fun _ _ _ h => h) (Or.inl ⟨by rfl, fun w' hw' => ?_⟩) hS2 ?_
      · go_simp
      simp only [Act.put, List.setIfInBounds_toArray, List.set_cons_zero, List.set_cons_succ]
      refine Pe_done (by kernel_rfl) ?_ _
      clear hS hS2
      go_wp2
      go_meet
      case rel => exact ⟨w11.heap.size, lJ, kaJ, kcJ, ksJ, gJ, iaJ, icJ, isJ, rfl, rfl, HEnd.out.2.1, H11.out.1, HEnd.out.1.lower (adds_dr w10).size, HEnd.out.2.2⟩
    · have hS2 : (fun W : World => Adds w10 W) (w10.drew.alloc NZ) := (adds_dr w10).alloc _
      refine EO_value 7 (v := .pointer (some ⟨w10.heap.size, 0, none⟩)) (w' := w10.drew.alloc NZ) rfl rfl (by rfl) (by go_simp) hS2 ?_
      clear hS; have hS := hS2; clear hS2
      simp only [Act.put, List.setIfInBounds_toArray, List.set_cons_zero, List.set_cons_succ]
      refine Pe_call (i := 9) 78 31 #[.agg #[.bool lA, .slice kaA kA kcA, .slice gA.a gA.l.length gA.cap, .slice iaA isA.length icA], .string ⟨key.toArray⟩, .agg #[.bool lB, .slice kaB kB kcB, .slice gB.a gB.l.length gB.cap, .slice iaB isB.length icB]] (by kernel_rfl) rfl rfl (by rfl) (by go_simp) (HJn.out _ hS) ?_
      rintro e w11 ⟨lJ, kaJ, kcJ, ksJ, gJ, iaJ, icJ, isJ, rfl, H11⟩
      have hS2 : (fun W : World => Adds w10 W) w11 := hS.trans H11.out.2.2
      refine ⟨_, rfl, fun _ => hS2, ?_⟩
      clear hS; have hS := hS2; clear hS2
      simp only [Act.put, List.setIfInBounds_toArray, List.set_cons_zero, List.set_cons_succ]
      refine Pe_put (i := 10) 68 (v := .tuple #[.agg #[.bool lJ, .slice kaJ ksJ.length kcJ, .slice gJ.a gJ.l.length gJ.cap, .slice iaJ isJ.length icJ], .int .i64 0]) rfl rfl (by kernel_rfl) (by kernel_rfl) (by kernel_rfl) (by kernel_rfl) (fun _ _ _ h => h) (Or.inl ⟨by rfl, fun w' hw' => ?_⟩) hS ?_
      · go_simp
      simp only [Act.put, List.setIfInBounds_toArray, List.set_cons_zero, List.set_cons_succ]
      refine Pe_put (i := 11) 79 (v := .agg #[.bool lJ, .slice kaJ ksJ.length kcJ, .slice gJ.a gJ.l.length gJ.cap, .slice iaJ isJ.length icJ]) rfl rfl (by kernel_rfl) (by kernel_rfl) (by kernel_rfl) (by kernel_rfl) (fun _ _ _ h => h) (Or.inl ⟨by rfl, fun w' hw' => ?_⟩) hS ?_
      · go_simp
      simp only [Act.put, List.setIfInBounds_toArray, List.set_cons_zero, List.set_cons_succ]
      refine Pe_put (i := 12) 80 (v := .int .i64 0) rfl rfl (by kernel_rfl) (by kernel_rfl) (by kernel_rfl) (by kernel_rfl) (fun _ _ _ h => h) (Or.inl ⟨by rfl, fun w' hw' => ?_⟩) hS ?_
      · go_simp
      simp only [Act.put, List.setIfInBounds_toArray, List.set_cons_zero, List.set_cons_succ]
      have hbz := box_adds (heap_alloc_new w10.drew NZ) H11.out.2.2
      have hT := touch_row w11 w10.heap.size #[.bool lJ, .slice kaJ ksJ.length kcJ, .slice gJ.a gJ.l.length gJ.cap, .slice iaJ isJ.length icJ]
      have HEnd := hid (show (w11.setRow w10.heap.size #[.bool lJ, .slice kaJ ksJ.length kcJ, .slice gJ.a gJ.l.length gJ.cap, .slice iaJ isJ.length icJ]).heap[w10.heap.size]? = some (.cells #[.bool lJ, .slice kaJ ksJ.length kcJ, .slice gJ.a gJ.l.length gJ.cap, .slice iaJ isJ.length icJ] 28 (0, 0)) ∧ NOwn (w11.setRow w10.heap.size #[.bool lJ, .slice kaJ ksJ.length kcJ, .slice gJ.a gJ.l.length gJ.cap, .slice iaJ isJ.length icJ]) w10.heap.size ⟨lJ, kaJ, kcJ, ksJ, gJ, iaJ, icJ, isJ⟩ ∧ Adds w10 (w11.setRow w10.heap.size #[.bool lJ, .slice kaJ ksJ.length kcJ, .slice gJ.a gJ.l.length gJ.cap, .slice iaJ isJ.length icJ]) from ⟨setRow_heap _ _ _ _ 28 _ hbz, (H11.out.2.1.lower (by simp)).touch hT hbz, hS.then hT (fun j hj e => by omega)⟩)
      refine Pe_do (i := 14) none (by kernel_rfl) rfl rfl rfl (fun K' hK => ?_)
      refine Go.wp_store_row 28 _ _ rfl w10.heap.size #[.bool lJ, .slice kaJ ksJ.length kcJ, .slice gJ.a gJ.l.length gJ.cap, .slice iaJ isJ.length icJ] rfl rfl 28 _ hbz (info4 _ _ _ _) rfl (one4 _ _ _ _ _ _ _ _ _ _) ?_
      have hS2 := HEnd.out.2.2
      refine hK _ _ (fun _ => hS2) ?_
      simp only [Act.put]
      refine Pe_put (i := 15) 8 (v := .int .i64 0) rfl rfl (by kernel_rfl) (by kernel_rfl) (by kernel_rfl) (by kernel_rfl) (fun _ _ _ h => h) (Or.inl ⟨by rfl, fun w' hw' => ?_⟩) hS2 ?_
      · go_simp
      simp only [Act.put, List.setIfInBounds_toArray, List.set_cons_zero, List.set_cons_succ]
      refine Pe_done (by kernel_rfl) ?_ _
      clear hS hS2 hT hbz
      go_wp2
      go_meet
      case rel => exact ⟨w10.heap.size, lJ, kaJ, kcJ, ksJ, gJ, iaJ, icJ, isJ, rfl, rfl, HEnd.out.1, H11.out.1, HEnd.out.2.1, HEnd.out.2.2⟩
  case rest =>
    obtain ⟨N7, lJ, kaJ, kcJ, ksJ, gJ, iaJ, icJ, isJ, rfl, rfl, H12⟩ := hcut
    have X12 := hid (box_adds X10.out H12.out.2.2.2)
    have Y12 := hid (box_adds Y10.out H12.out.2.2.2)
    have NA12 := hid (box_adds NA10.out H12.out.2.2.2)
    have NB12 := hid (box_adds NB10.out H12.out.2.2.2)
    have OA12 := hid (OA10.out.adds H12.out.2.2.2)
    have OB12 := hid (OB10.out.adds H12.out.2.2.2)
    have OX12 := hid ((HB.out.1.adds (A58.out.trans A10.out)).adds H12.out.2.2.2)
    have T12 := hid (T10.out.trans H12.out.2.2.2)
    have HSm12 := hid (show Calls Try.prog 20 #[.agg #[.bool lJ, .slice kaJ ksJ.length kcJ, .slice gJ.a gJ.l.length gJ.cap, .slice iaJ isJ.length icJ], .agg #[.bool xl, .slice (some ⟨b, o, none⟩) kn xkc, .slice xg.a xg.l.length xg.cap, .slice xia xis.length xic]] wc (Adding (.bool true) wc) from HSm.out wc w10 ⟨lJ, kaJ, kcJ, ksJ, gJ, iaJ, icJ, isJ⟩ T12.out H12.out.2.1 H12.out.2.2.1)
    clear HJn HSm X10 Y10 NA10 NB10 OA10 OB10
    go_upto_region 14 with (first
      | (refine wpList_load_g (by rfl) 28 _ rfl N7 0 rfl [.bool lJ, .slice kaJ ksJ.length kcJ, .slice gJ.a gJ.l.length gJ.cap, .slice iaJ isJ.length icJ] _ (rng_of H12.out.1) Try.underlying28 rfl infoN.out ?_)
      | (refine wpList_load_g (by rfl) 26 _ rfl N0 0 rfl [.bool xl, .slice (some ⟨b, o, none⟩) kn xkc, .slice xg.a xg.l.length xg.cap, .slice xia xis.length xic] _ (rng_of X12.out) Try.underlying26 rfl infoRN.out ?_)
      | (go_at_call 20; refine HSm12.out.mono ?_; rintro e w13 ⟨rfl, hA13⟩; have A13 := hid hA13; obtain ⟨_, x1, _, _⟩ := box_cells (box_adds X12.out hA13); clear hA13))
    go_upto_region 15 with fail
    clear x1 HSm12
    have X13 := hid (box_adds X12.out A13.out)
    have Y13 := hid (box_adds Y12.out A13.out)
    have NA13 := hid (box_adds NA12.out A13.out)
    have NB13 := hid (box_adds NB12.out A13.out)
    have OA13 := hid (OA12.out.adds A13.out)
    have OB13 := hid (OB12.out.adds A13.out)
    have OX13 := hid (OX12.out.adds A13.out)
    have T13 := hid (T12.out.trans A13.out)
    clear X12 Y12 NA12 NB12 OA12 OB12 OX12
    have HTx := hid (fun w' (hA : Adds w13 w') => show Calls Try.prog 17 #[.agg #[.bool l, .slice ka ks.length kc, .slice g.a g.l.length g.cap, .slice ia is.length ic]] w' (Adding (.int .i64 (N.taken n : Int)) w') by
      have q := ntaken_any ⟨l, ka, kc, ks, g, ia, ic, is⟩ w' (OX13.out.adds hA).nq HZs.out
      rw [HZ.out] at q
      exact q)
    have HRm := hid (fun (i : Nat) (n1 : N.Nd) (e1 : Nat) (he : N.remove n (i : Int) = (n1, e1)) w' (hA : Adds w13 w') => show Calls Try.prog 27 #[.agg #[.bool l, .slice ka ks.length kc, .slice g.a g.l.length g.cap, .slice ia is.length ic], .int .i64 (i : Int)] w' (PTnd w' n1 (e1 : Int)) from
      PTnode.nd (nremove_any ⟨l, ka, kc, ks, g, ia, ic, is⟩ (i : Int) w' (OX13.out.adds hA).nq (by rw [HZ.out]; exact HB2.out.mono (by decide))) (by rw [HZ.out]; exact he))
    have HRb := hid (fun (i : Nat) (n1 : N.Nd) (e1 : Nat) (hi : i < kn) (he : N.remove n (i : Int) = (n1, e1)) => show N.Bd 200 n1 from by
      have q := HB2.out.remove (i := i) (by rw [HKn.out]; exact hi)
      rw [he] at q
      exact q)
    obtain ⟨tx, htx⟩ : ∃ t, t = N.taken n := ⟨_, rfl⟩
    have htx9 : tx ≤ 18600 := by rw [htx]; exact N.taken_most (m := 200) HB2.out.k
    have HTX := hid htx
    rw [← htx] at HTx
    clear htx
    go_loopw [92] (fun t wx => ∃ k : Nat, k ≤ kn ∧ t = .int .i64 (k : Int) ∧ Hid (Adds w13 wx)) (fun t _ => kn - (intOf t).toNat)
    case atStart => exact ⟨0, Nat.zero_le _, rfl, Touch.refl _ _⟩
    case round =>
      obtain ⟨k, hk, rfl, HX⟩ := hrel
      by_cases hlt : k < kn
      · have hlz : (k : Int) < (kn : Int) := by omega
        obtain ⟨n1, e1, he, he1⟩ : ∃ (n1 : N.Nd) (e1 : Nat), N.remove n (k : Int) = (n1, e1) ∧ (e1 = 0 ∨ e1 = 22) := by
          obtain ⟨n1, q⟩ := remove_cases HRr.out.symm (i := k) (by rw [HKn.out]; exact hlt)
          rcases q with q | q
          · exact ⟨n1, 0, q, .inl rfl⟩
          · exact ⟨n1, 22, q, .inr rfl⟩
        have HRk := hid (HRm.out k n1 e1 he _ HX.out)
        have HBk := hid (HRb.out k n1 e1 hlt he)
        have Y14 := hid (box_adds Y13.out HX.out)
        clear he
        go_upto_region 18 with (first
          | (refine wpList_load_row rfl 28 _ rfl N5 rfl 28 _ _ _ Y14.out Try.underlying28 rfl (info4 _ _ _ _) ?_)
          | (go_at_call 27; refine HRk.out.mono ?_; rintro e w15 ⟨lK, kaK, kcK, ksK, gK, iaK, icK, isK, rfl, H15⟩)
          | (refine wpList_store_row rfl 28 _ _ rfl _ #[.bool lK, .slice kaK ksK.length kcK, .slice gK.a gK.l.length gK.cap, .slice iaK isK.length icK] rfl rfl 28 _ (heap_alloc_new _ _) (info4 _ _ _ _) rfl (one4 _ _ _ _ _ _ _ _ _ _) ?_))
        clear HRk
        obtain ⟨N10, hN10⟩ : ∃ N10, N10 = w15.heap.size := ⟨_, rfl⟩
        rw [← hN10]
        obtain ⟨w16, hw16⟩ : ∃ w16, w16 = (w15.alloc NZ).setRow N10 #[.bool lK, .slice kaK ksK.length kcK, .slice gK.a gK.l.length gK.cap, .slice iaK isK.length icK] := ⟨_, rfl⟩
        have HB16 := hid (boxed H15.out hN10 hw16)
        rw [← hw16]
        clear hw16 hN10
        have A16 := hid (HX.out.trans HB16.out.2.2)
        have Y16 := hid (box_adds Y13.out A16.out)
        obtain ⟨tk, htk⟩ : ∃ t, t = N.taken n1 := ⟨_, rfl⟩
        have htk9 : tk ≤ 18600 := by rw [htk]; exact N.taken_most (m := 200) HBk.out.k
        have HTk := hid (fun w' (hA : Adds w16 w') => show Calls Try.prog 17 #[.agg #[.bool lK, .slice kaK ksK.length kcK, .slice gK.a gK.l.length gK.cap, .slice iaK isK.length icK]] w' (Adding (.int .i64 (tk : Int)) w') by
          have q := ntaken_any ⟨lK, kaK, kcK, ksK, gK, iaK, icK, isK⟩ w' (HB16.out.1.adds hA).nq (N.Bd.ns (m := 200) (by rw [H15.out.1]; exact HBk.out) (by decide))
          rw [H15.out.1, ← htk] at q
          exact q)
        clear htk Y14
        go_cut [110] (fun t wx => ∃ z : Bool, t = .bool z ∧ Hid (Adds w16 wx))
        case first =>
          rcases he1 with rfl | rfl
          · refine Pe_begin (S := fun W : World => Adds w16 W) (X := 10) (by kernel_rfl) ?_
            have hS : (fun W : World => Adds w16 W) w16.drew := adds_dr w16
            refine Pe_put (i := 0) 101 (v := .int .i64 0) rfl rfl (by kernel_rfl) (by kernel_rfl) (by kernel_rfl) (by kernel_rfl) (fun _ _ _ h => h) (Or.inl ⟨by rfl, fun w' hw' => ?_⟩) hS ?_
            · go_simp
            simp only [Act.put, List.setIfInBounds_toArray, List.set_cons_zero, List.set_cons_succ]
            refine Pe_put (i := 1) 102 (v := .bool true) rfl rfl (by kernel_rfl) (by kernel_rfl) (by kernel_rfl) (by kernel_rfl) (fun _ _ _ h => h) (Or.inl ⟨by rfl, fun w' hw' => ?_⟩) hS ?_
            · go_simp
            simp only [Act.put, List.setIfInBounds_toArray, List.set_cons_zero, List.set_cons_succ]
            refine Pe_put (i := 2) 103 (v := .bool true) rfl rfl (by kernel_rfl) (by kernel_rfl) (by kernel_rfl) (by kernel_rfl) (fun _ _ _ h => h) (Or.inl ⟨by rfl, fun w' hw' => ?_⟩) hS ?_
            · go_simp
            simp only [Act.put, List.setIfInBounds_toArray, List.set_cons_zero, List.set_cons_succ]
            refine Pe_put (i := 3) 104 (v := .agg #[.bool l, .slice ka ks.length kc, .slice g.a g.l.length g.cap, .slice ia is.length ic]) rfl rfl (by kernel_rfl) (by kernel_rfl) (by kernel_rfl) (by kernel_rfl) (fun _ _ _ h => h) (Or.inl ⟨by rfl, fun w' hw' => ?_⟩) hS ?_
            · (obtain ⟨c0, c1, c2, c3⟩ := box_cells (box_adds Y16.out hw'); clear hw'; go_simp)
            simp only [Act.put, List.setIfInBounds_toArray, List.set_cons_zero, List.set_cons_succ]
            refine Pe_put (i := 5) 106 (v := .agg #[.bool lK, .slice kaK ksK.length kcK, .slice gK.a gK.l.length gK.cap, .slice iaK isK.length icK]) rfl rfl (by kernel_rfl) (by kernel_rfl) (by kernel_rfl) (by kernel_rfl) (fun _ _ _ h => h) (Or.inl ⟨by rfl, fun w' hw' => ?_⟩) hS ?_
            · (obtain ⟨c0, c1, c2, c3⟩ := box_cells (box_adds HB16.out.2.1 hw'); clear hw'; go_simp)
            simp only [Act.put, List.setIfInBounds_toArray, List.set_cons_zero, List.set_cons_succ]
            refine Pe_call (i := 4) 105 17 #[.agg #[.bool l, .slice ka ks.length kc, .slice g.a g.l.length g.cap, .slice ia is.length ic]] (by kernel_rfl) rfl rfl (by rfl) (by go_simp) (HTx.out _ (A16.out.trans hS)) ?_
            rintro e w17 ⟨rfl, hAw17⟩
            have hS2 : (fun W : World => Adds w16 W) w17 := hS.trans hAw17
            refine ⟨_, rfl, fun _ => hS2, ?_⟩
            clear hS; have hS := hS2; clear hS2
            simp only [Act.put, List.setIfInBounds_toArray, List.set_cons_zero, List.set_cons_succ]
            refine Pe_call (i := 6) 107 17 #[.agg #[.bool lK, .slice kaK ksK.length kcK, .slice gK.a gK.l.length gK.cap, .slice iaK isK.length icK]] (by kernel_rfl) rfl rfl (by rfl) (by go_simp) (HTk.out _ hS) ?_
            rintro e w18 ⟨rfl, hAw18⟩
            have hS2 : (fun W : World => Adds w16 W) w18 := hS.trans hAw18
            refine ⟨_, rfl, fun _ => hS2, ?_⟩
            clear hS; have hS := hS2; clear hS2
            simp only [Act.put, List.setIfInBounds_toArray, List.set_cons_zero, List.set_cons_succ]
            refine Pe_put (i := 7) 108 (v := .int .i64 ((tx : Int) - (tk : Int))) rfl rfl (by kernel_rfl) (by kernel_rfl) (by kernel_rfl) (by kernel_rfl) (fun _ _ _ h => h) (Or.inl ⟨by rfl, fun w' hw' => ?_⟩) hS ?_
            · (have hwr : IntKind.i64.wrap ((tx : Int) - (tk : Int)) = (tx : Int) - (tk : Int) := by rw [IntKind.wrap_i64]; omega); go_simp
            simp only [Act.put, List.setIfInBounds_toArray, List.set_cons_zero, List.set_cons_succ]
            refine Pe_put (i := 8) 109 (v := .bool (decide ((97 : Int) < (tx : Int) - (tk : Int)))) rfl rfl (by kernel_rfl) (by kernel_rfl) (by kernel_rfl) (by kernel_rfl) (fun _ _ _ h => h) (Or.inl ⟨by rfl, fun w' hw' => ?_⟩) hS ?_
            · go_simp
            simp only [Act.put, List.setIfInBounds_toArray, List.set_cons_zero, List.set_cons_succ]
            refine Pe_put (i := 9) 110 (v := .bool (decide ((97 : Int) < (tx : Int) - (tk : Int)))) rfl rfl (by kernel_rfl) (by kernel_rfl) (by kernel_rfl) (by kernel_rfl) (fun _ _ _ h => h) (Or.inl ⟨by rfl, fun w' hw' => ?_⟩) hS ?_
            · go_simp
            simp only [Act.put, List.setIfInBounds_toArray, List.set_cons_zero, List.set_cons_succ]
            have HEnd := hid hS
            refine Pe_done (by kernel_rfl) ?_ _
            clear hS
            go_wp2
            go_meet
            case rel => exact ⟨_, rfl, HEnd.out⟩
          · refine Pe_begin (S := fun W : World => Adds w16 W) (X := 10) (by kernel_rfl) ?_
            have hS : (fun W : World => Adds w16 W) w16.drew := adds_dr w16
            refine Pe_put (i := 0) 101 (v := .int .i64 22) rfl rfl (by kernel_rfl) (by kernel_rfl) (by kernel_rfl) (by kernel_rfl) (fun _ _ _ h => h) (Or.inl ⟨by rfl, fun w' hw' => ?_⟩) hS ?_
            · go_simp
            simp only [Act.put, List.setIfInBounds_toArray, List.set_cons_zero, List.set_cons_succ]
            refine Pe_put (i := 1) 102 (v := .bool false) rfl rfl (by kernel_rfl) (by kernel_rfl) (by kernel_rfl) (by kernel_rfl) (fun _ _ _ h => h) (Or.inl ⟨by rfl, fun w' hw' => ?_⟩) hS ?_
            · go_simp
            simp only [Act.put, List.setIfInBounds_toArray, List.set_cons_zero, List.set_cons_succ]
            refine Pe_put (i := 2) 103 (v := .bool false) rfl rfl (by kernel_rfl) (by kernel_rfl) (by kernel_rfl) (by kernel_rfl) (fun _ _ _ h => h) (Or.inl ⟨by rfl, fun w' hw' => ?_⟩) hS ?_
            · go_simp
            simp only [Act.put, List.setIfInBounds_toArray, List.set_cons_zero, List.set_cons_succ]
            refine Pe_put (i := 3) 104 (v := undef) rfl rfl (by kernel_rfl) (by kernel_rfl) (by kernel_rfl) (by kernel_rfl) (fun _ _ _ h => h) (Or.inr ⟨by rfl, rfl⟩) hS ?_
            simp only [Act.put, List.setIfInBounds_toArray, List.set_cons_zero, List.set_cons_succ]
            refine Pe_put (i := 5) 106 (v := undef) rfl rfl (by kernel_rfl) (by kernel_rfl) (by kernel_rfl) (by kernel_rfl) (fun _ _ _ h => h) (Or.inr ⟨by rfl, rfl⟩) hS ?_
            simp only [Act.put, List.setIfInBounds_toArray, List.set_cons_zero, List.set_cons_succ]
            refine Pe_put (i := 4) 105 (v := undef) rfl rfl (by kernel_rfl) (by kernel_rfl) (by kernel_rfl) (by kernel_rfl) (fun _ _ _ h => h) (Or.inr ⟨by rfl, rfl⟩) hS ?_
            simp only [Act.put, List.setIfInBounds_toArray, List.set_cons_zero, List.set_cons_succ]
            refine Pe_put (i := 6) 107 (v := undef) rfl rfl (by kernel_rfl) (by kernel_rfl) (by kernel_rfl) (by kernel_rfl) (fun _ _ _ h => h) (Or.inr ⟨by rfl, rfl⟩) hS ?_
            simp only [Act.put, List.setIfInBounds_toArray, List.set_cons_zero, List.set_cons_succ]
            refine Pe_put (i := 7) 108 (v := undef) rfl rfl (by kernel_rfl) (by kernel_rfl) (by kernel_rfl) (by kernel_rfl) (fun _ _ _ h => h) (Or.inr ⟨by rfl, rfl⟩) hS ?_
            simp only [Act.put, List.setIfInBounds_toArray, List.set_cons_zero, List.set_cons_succ]
            refine Pe_put (i := 8) 109 (v := undef) rfl rfl (by kernel_rfl) (by kernel_rfl) (by kernel_rfl) (by kernel_rfl) (fun _ _ _ h => h) (Or.inr ⟨by rfl, rfl⟩) hS ?_
            simp only [Act.put, List.setIfInBounds_toArray, List.set_cons_zero, List.set_cons_succ]
            refine Pe_put (i := 9) 110 (v := .bool false) rfl rfl (by kernel_rfl) (by kernel_rfl) (by kernel_rfl) (by kernel_rfl) (fun _ _ _ h => h) (Or.inl ⟨by rfl, fun w' hw' => ?_⟩) hS ?_
            · go_simp
            simp only [Act.put, List.setIfInBounds_toArray, List.set_cons_zero, List.set_cons_succ]
            have HEnd := hid hS
            refine Pe_done (by kernel_rfl) ?_ _
            clear hS
            go_wp2
            go_meet
            case rel => exact ⟨false, rfl, HEnd.out⟩
        case rest =>
          obtain ⟨z, rfl, H17⟩ := hcut
          cases z with
          | true =>
            go_wp2_with fail
            go_ret
            exact ⟨rfl, T13.out.trans (A16.out.trans H17.out)⟩
          | false =>
            go_wp2_with fail
            go_roundw
            case rel => exact ⟨k + 1, by omega, by go_num, A16.out.trans H17.out⟩
            case measure => simp [intOf]; omega
      · obtain rfl : k = kn := by omega
        have hlz : ¬ (k : Int) < (k : Int) := by omega
        have HTx2 := hid (HTx.out _ HX.out)
        have Y14 := hid (box_adds Y13.out HX.out)
        by_cases h341 : 341 < tx
        · have h341z : (341 : Int) < (tx : Int) := by omega
          have h341d : decide ((341 : Int) < (tx : Int)) = true := decide_eq_true h341z
          go_wp2_with (first
            | (refine wpList_load_row rfl 28 _ rfl N5 rfl 28 _ _ _ Y14.out Try.underlying28 rfl (info4 _ _ _ _) ?_)
            | (go_at_call 17; refine HTx2.out.mono ?_; rintro e w20 ⟨rfl, hA20⟩; have A20 := hid hA20; clear hA20))
          go_ret
          exact ⟨rfl, T13.out.trans (HX.out.trans A20.out)⟩
        · have h341z : ¬ (341 : Int) < (tx : Int) := by omega
          have h341d : decide ((341 : Int) < (tx : Int)) = false := decide_eq_false h341z
          have hfit : N.taken ndA ≤ 244 ∧ N.taken ndB ≤ 244 := HF.out.2.2.2.2.1 (by rw [← HTX.out]; omega)
          have HFA := hid (fun w' (hA : Adds w13 w') => show Calls Try.prog 19 #[.agg #[.bool lA, .slice kaA kA kcA, .slice gA.a gA.l.length gA.cap, .slice iaA isA.length icA]] w' (Adding (.bool true) w') by
            have q := nfits_any ⟨lA, kaA, kcA, ksA, gA, iaA, icA, isA⟩ w' (OA13.out.adds hA).nq SA.out
            rw [EA.out, HF.out.2.2.1.1, decide_eq_true hfit.1] at q
            rw [KA.out.1]
            exact q)
          have HFB := hid (fun w' (hA : Adds w13 w') => show Calls Try.prog 19 #[.agg #[.bool lB, .slice kaB kB kcB, .slice gB.a gB.l.length gB.cap, .slice iaB isB.length icB]] w' (Adding (.bool true) w') by
            have q := nfits_any ⟨lB, kaB, kcB, ksB, gB, iaB, icB, isB⟩ w' (OB13.out.adds hA).nq SB.out
            rw [EB.out, HF.out.2.2.1.2, decide_eq_true hfit.2] at q
            rw [KA.out.2]
            exact q)
          clear hfit
          go_wp2_with (first
            | (refine wpList_load_row rfl 28 _ rfl N5 rfl 28 _ _ _ Y14.out Try.underlying28 rfl (info4 _ _ _ _) ?_)
            | (go_at_call 17; refine HTx2.out.mono ?_; rintro e w20 ⟨rfl, hA20⟩; have A20 := hid (HX.out.trans hA20); clear hA20)
            | (refine wpList_load_g (by rfl) 28 _ rfl NA 0 rfl [.bool lA, .slice kaA kA kcA, .slice gA.a gA.l.length gA.cap, .slice iaA isA.length icA] _ (rng_of (box_adds NA13.out A20.out)) Try.underlying28 rfl infoN.out ?_)
            | (refine wpList_load_g (by rfl) 28 _ rfl NB 0 rfl [.bool lB, .slice kaB kB kcB, .slice gB.a gB.l.length gB.cap, .slice iaB isB.length icB] _ (rng_of (box_adds NB13.out A21.out)) Try.underlying28 rfl infoN.out ?_)
            | (go_at_call 19; refine (HFB.out w21 A21.out).mono ?_; rintro e w22 ⟨rfl, hA22⟩; have A22 := hid (A21.out.trans hA22); clear hA22)
            | (go_at_call 19; refine (HFA.out w20 A20.out).mono ?_; rintro e w21 ⟨rfl, hA21⟩; have A21 := hid (A20.out.trans hA21); clear hA21))
          go_ret
          exact ⟨rfl, T13.out.trans A22.out⟩
end Go.Proofs.Ytplppnngmlljnaa
