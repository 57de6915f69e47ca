/- Texts put together: NMid, NCut, NJoin, NRJoin, NHMath, NRCut, NSpoil. -/
import Derived.Test.YtplppnngmlljnaaQ18
import Derived.Test.YtplppnngmlljnaaQ16
import Derived.Laws.BitsLemmas
/- Where a node is cut. -/
namespace Go.Proofs.Ytplppnngmlljnaa
open Go.RowKit

theorem N.mid_lt (l : List (List UInt8)) : ∀ k, (N.mid l k).1 ≤ k
  | 0 => Nat.le_refl _
  | k + 1 => by
    unfold N.mid
    split
    · exact Nat.le_succ k
    · exact Nat.le_succ_of_le (N.mid_lt l k)
theorem N.mid_yes {l : List (List UInt8)} {k : Nat} (h : N.unlike l k < (N.mid l k).2) : N.mid l (k + 1) = (k, N.unlike l k) := by conv => lhs; unfold N.mid; rw [if_pos h]
theorem N.mid_no {l : List (List UInt8)} {k : Nat} (h : ¬ N.unlike l k < (N.mid l k).2) : N.mid l (k + 1) = N.mid l k := by conv => lhs; unfold N.mid; rw [if_neg h]
set_option maxRecDepth 100000 in
set_option maxHeartbeats 4000000 in
theorem nmiddle_any (x : NM) (w : World) {Q : Nat → Prop} (h : NQ w Q x) (hs : NS x) (hr : N.right x.nd = true) : Calls Try.prog 60 #[x.val] w (Adding (.int .i64 (N.middle x.nd : Int)) w) := by
  have HR := hid hr
  obtain ⟨N0, w1, hN0, hw1, HA1, Hg, b0, b1, b2, b3⟩ := nbox w x.leaf x.kv x.vv x.iv
  obtain ⟨cs, hcs⟩ : ∃ cs, cs = N.cells x.nd := ⟨_, rfl⟩
  obtain ⟨tk, htk⟩ : ∃ tk, tk = M.taken cs := ⟨_, rfl⟩
  have htk2 : N.taken x.nd = tk := by rw [N.taken, if_pos hr, htk, hcs]
  obtain ⟨cn, hcn⟩ : ∃ cn, cn = cs.length := ⟨_, rfl⟩
  have hcn9 : cn ≤ 1000 := by rw [hcn, hcs, len_cells]; exact hs.k
  have htk9 : tk ≤ 93000 := by
    have q := ntaken_le cs (by rw [hcs]; exact cells_all hr)
    rw [htk]; omega
  have HC := hid (show Calls Try.prog 17 #[x.val] w1 (Adding (.int .i64 (tk : Int)) w1) by rw [← htk2]; exact ntaken_any x w1 (h.adds HA1.out) hs)
  have HCc := hid (fun w' (hA : Adds w w') => show Calls Try.prog 35 #[x.val] w' (fun e w2 => ∃ ca cc, ∃ hs : List Part, e = .returned (.slice ca cn cc) ∧ Hid (hs.map (·.bs) = cs ∧ GQ w2 (fun k => w'.heap.size ≤ k) ⟨ca, cc, hs⟩ ∧ Adds w' w2 ∧ cn ≤ cc)) by
    rw [hcn, hcs]; exact ncells_any x w' (h.adds hA) hs hr)
  obtain ⟨md, hmd⟩ : ∃ md, md = N.middle x.nd := ⟨_, rfl⟩
  rw [← hmd]
  have HMd := hid (show md = (N.mid cs cn).1 by rw [hmd, hcn, hcs, len_cells]; rfl)
  have HCs := hid hcs
  have HTk := hid htk
  have HCn := hid hcn
  have HCa := hid (show ∀ c ∈ cs, c.length ≤ 91 by rw [hcs]; exact cells_all hr)
  clear h hs hr htk htk2 hcs b0 b1 b2 b3 hcn hmd
  have HU := infoN
  unfold NM.val NM.kv NM.vv NM.iv at *
  go_enter Try.func60, Try.ntmps60
  go_upto_region 1 with fail
  rw [← hw1, ← hN0]
  clear hw1 hN0
  go_upto_region 3 with (first
    | (refine wpList_load_mid rfl 28 _ rfl N0 0 rfl [.bool x.leaf, .slice x.ka x.ks.length x.kc, .slice x.v.a x.v.l.length x.v.cap, .slice x.ia x.is.length x.ic] _ Hg.out Try.underlying28 rfl HU.out ?_)
    | (go_at_call 17; refine HC.out.mono ?_; rintro e w2 ⟨rfl, hA2⟩; have H2 := hid hA2; clear hA2))
  have Hg2 := hid (fun j v hv => below_adds H2.out (Hg.out j v hv))
  have HCc2 := hid (HCc.out w2 (HA1.out.trans H2.out))
  go_upto_region 4 with (first
    | (refine wpList_load_mid rfl 28 _ rfl N0 0 rfl [.bool x.leaf, .slice x.ka x.ks.length x.kc, .slice x.v.a x.v.l.length x.v.cap, .slice x.ia x.is.length x.ic] _ Hg2.out Try.underlying28 rfl HU.out ?_)
    | (go_at_call 35; refine HCc2.out.mono ?_; rintro e w3 ⟨ca, cc, hs, rfl, H3⟩))
  have HL := hid (show hs.length = cn by rw [HCn.out, ← H3.out.1, List.length_map])
  go_loopw [4, 5, 6, 16] (fun tz tp tu t wx => ∃ (k z p u : Nat), k ≤ cn ∧ z ≤ 93 * k ∧ p ≤ k ∧ u ≤ tk ∧ t = .int .i64 (k : Int) ∧ tz = .int .i64 (z : Int) ∧ tp = .int .i64 (p : Int) ∧ tu = .int .i64 (u : Int) ∧ wx = w3 ∧ Hid (z = M.taken (cs.take k) ∧ p = (N.mid cs k).1 ∧ u = (N.mid cs k).2)) (fun _ _ _ t _ => cn - (intOf t).toNat)
  case atStart => exact ⟨0, 0, 0, tk, Nat.zero_le _, Nat.zero_le _, Nat.le_refl _, Nat.le_refl _, rfl, rfl, rfl, rfl, rfl, rfl, rfl, HTk.out⟩
  case round =>
    obtain ⟨k, z, p, u, hk, hz, hp, hu, rfl, rfl, rfl, rfl, hwx, HZ⟩ := hrel
    rw [hwx]
    clear hwx
    by_cases hlt : k < cn
    · have hlz : (k : Int) < (cn : Int) := by omega
      have hkh : k < hs.length := by rw [HL.out]; exact hlt
      obtain ⟨b, o, ea, hc⟩ := H3.out.2.1.cell hkh
      have ea' : ca = some ⟨b, o, none⟩ := ea
      subst ea'
      obtain ⟨y, hy⟩ : ∃ y, y = hs[k] := ⟨_, rfl⟩
      have hkc : k < cs.length := by rw [← HCn.out]; exact hlt
      have hyb : y.bs = cs[k] := by
        have q : (hs.map (·.bs))[k]? = cs[k]? := by rw [H3.out.1]
        rw [List.getElem?_map, List.getElem?_eq_getElem hkh, List.getElem?_eq_getElem hkc] at q
        rw [hy]; exact Option.some.inj q
      rw [← hy] at hc
      obtain ⟨m, hm⟩ : ∃ m, m = y.bs.length := ⟨_, rfl⟩
      have hm9 : m ≤ 91 := by rw [hm, hyb]; exact HCa.out _ (List.getElem_mem hkc)
      have HM := hid (show M.taken (cs.take (k + 1)) = z + (2 + m) by rw [taken_snoc hkc, HZ.out.1, hm, hyb])
      have hc' : w3.cell? ⟨b, o + k, none⟩ = some (.slice y.a m y.cap) := by rw [hm]; exact hc
      have HUn := hid (show N.unlike cs k = (2 * (z : Int) - (tk : Int)).natAbs by unfold N.unlike; rw [HZ.out.1, HTk.out])
      clear hc hy hyb hm hkc hkh ea
      go_upto_region 7 with fail
      obtain ⟨d, hd⟩ : ∃ d, d = N.unlike cs k := ⟨_, rfl⟩
      have e : (if (tk : Int) - 2 * (z : Int) < 2 * (z : Int) - (tk : Int) then 2 * (z : Int) - (tk : Int) else (tk : Int) - 2 * (z : Int)) = (d : Int) := by
        rw [hd, HUn.out]
        split <;> omega
      have hd9 : d ≤ 300000 := by rw [hd, HUn.out]; omega
      have HD := hid hd
      rw [e]
      clear e hd
      by_cases hdu : d < u
      · have hduz : (d : Int) < (u : Int) := by omega
        go_wp2_with fail
        go_roundw
        case rel =>
          have q := N.mid_yes (l := cs) (k := k) (by rw [← HD.out, ← HZ.out.2.2]; exact hdu)
          exact ⟨k + 1, z + (2 + m), k, d, by omega, by omega, by omega, by omega, by go_num, by go_num, by go_num, by go_num, by trivial, HM.out.symm, by rw [q], by rw [q, HD.out]⟩
        case measure => simp [intOf]; omega
      · have hduz : ¬ (d : Int) < (u : Int) := by omega
        go_wp2_with fail
        go_roundw
        case rel =>
          have q := N.mid_no (l := cs) (k := k) (by rw [← HD.out, ← HZ.out.2.2]; exact hdu)
          exact ⟨k + 1, z + (2 + m), p, u, by omega, by omega, by omega, by omega, by go_num, by go_num, by go_num, by go_num, by trivial, HM.out.symm, by rw [q]; exact HZ.out.2.1, by rw [q]; exact HZ.out.2.2⟩
        case measure => simp [intOf]; omega
    · obtain rfl : k = cn := by omega
      have hlz : ¬ (k : Int) < (k : Int) := by omega
      go_wp2_with fail
      go_ret
      exact ⟨congrArg (fun n : Nat => Ending.returned (.int .i64 (n : Int))) (show p = md by rw [HMd.out, HZ.out.2.1]), (HA1.out.trans H2.out).trans H3.out.2.2.1⟩
end Go.Proofs.Ytplppnngmlljnaa

/- A node cut in two. -/
namespace Go.Proofs.Ytplppnngmlljnaa
open Go.RowKit

theorem results_n3 {fn : Func} {p q u : Tmp} (h : fn.results = #[.cell p 28, .cell q 28, .tmp u]) (tmps : Array Value) (w : World) (g g' : Nat) (cs cs' : Array Value) (hp : tmps.getD p undef = .pointer (some ⟨g, 0, .none⟩)) (hq : tmps.getD q undef = .pointer (some ⟨g', 0, .none⟩))
    (hg : w.heap[g]? = some (.cells cs 28 (0, 0))) (hs : cs.size = 4) (hg' : w.heap[g']? = some (.cells cs' 28 (0, 0))) (hs' : cs'.size = 4) :
    (results fn tmps).run Try.prog w = .ok (.tuple #[.agg cs, .agg cs', tmps.getD u undef]) w := by
  have hp' : tmps[p]?.getD undef = .pointer (some ⟨g, 0, none⟩) := by simpa using hp
  have hq' : tmps[q]?.getD undef = .pointer (some ⟨g', 0, none⟩) := by simpa using hq
  simp [results, h, hp', hq', asAddr, load_n w g cs hg hs, load_n w g' cs' hg' hs']
/-- The box of a node that was handed in, and the blocks of two results. -/
theorem nopen3 (w : World) (bx : Array Value) : ∃ N0 N1 N2 w3, N0 = w.heap.size ∧ N1 = N0 + 1 ∧ N2 = N1 + 1 ∧ w3 = ((w.alloc (.cells bx 28)).alloc NZ).alloc NZ ∧ Hid (Adds w w3) ∧ Hid (w3.heap[N0]? = some (.cells bx 28)) ∧ Hid (w3.heap[N1]? = some NZ) ∧ Hid (w3.heap[N2]? = some NZ) ∧ Hid (w.heap.size ≤ N1) := by
  obtain ⟨N0, N1, w2, h0, h1, hw2, HA, HB0, HB1, HL⟩ := nopen w bx
  have hz : w2.heap.size = N1 + 1 := by rw [hw2, h1, h0]; simp
  refine ⟨N0, N1, N1 + 1, w2.alloc NZ, h0, h1, rfl, by rw [hw2], HA.out.alloc _, box_adds HB0.out ((Touch.refl _ _).alloc _), box_adds HB1.out ((Touch.refl _ _).alloc _), ?_, HL⟩
  rw [← hz]
  exact heap_alloc_new _ _
/-- A node's blocks lie below a mark. -/
def NLt (C : Nat) (z : NM) : Prop := (∀ j, z.kv.ownBlock = some j → j < C) ∧ (∀ j, z.vv.ownBlock = some j → j < C) ∧ (∀ j, z.iv.ownBlock = some j → j < C) ∧ ∀ p ∈ z.v.l, 0 < p.bs.length → ∀ b o, p.a = some ⟨b, o, none⟩ → b < C
theorem row_blt {w : World} {B : Nat} {e : TypeId} {v : Value} {n : Nat} {xs : List Value} (h : w.ownsRow B e 1 v n xs) : ∀ j, v.ownBlock = some j → j < w.heap.size := fun j hj => by
  obtain ⟨cur, hc⟩ := row_type h hj
  exact (Array.getElem?_eq_some_iff.1 hc).1
theorem NOwn.lt {w : World} {B : Nat} {z : NM} (h : NOwn w B z) : NLt w.heap.size z := ⟨row_blt h.keys, row_blt h.vals, row_blt h.kids, fun p hp h0 b o e => by
  obtain ⟨b', o', e', hq, hc⟩ := (h.each p hp).q.at_ 0 (B8 (p.bs[0]'h0)) (by rw [S_get, List.getElem?_eq_getElem h0]; rfl)
  rw [e] at e'
  injection e' with e1
  injection e1 with e2 e3 _
  subst e2
  obtain ⟨_, cs, fr, hk⟩ := hq
  exact (Array.getElem?_eq_some_iff.1 hk).1⟩
/-- What a cut tells: two nodes, each in memory of its own. -/
def PCutN (w : World) (A B : N.Nd) (er : Nat) (e : Ending) (w' : World) : Prop := ∃ zA zB : NM, e = .returned (.tuple #[zA.val, zB.val, .int .i64 (er : Int)]) ∧ Hid ((zA.nd = A ∧ NOwn w' w.heap.size zA) ∧ (zB.nd = B ∧ NOwn w' w.heap.size zB) ∧ Adds w w' ∧ ∃ C, C ≤ w'.heap.size ∧ NLt C zA ∧ NOwn w' C zB)
theorem two_store {w w5 : World} {B N1 N2 : Nat} {z : NM} {cs1 cs2 a1 a2 : Array Value} (h : NOwn w5 B z) (h1 : w5.heap[N1]? = some (.cells cs1 28 (0, 0))) (h2 : w5.heap[N2]? = some (.cells cs2 28 (0, 0))) (hne : N1 ≠ N2) (hA : Adds w w5) (hL : w.heap.size ≤ N1) (hL2 : w.heap.size ≤ N2) :
    NOwn ((w5.setRow N1 a1).setRow N2 a2) B z ∧ ((w5.setRow N1 a1).setRow N2 a2).heap[N1]? = some (.cells a1 28 (0, 0)) ∧ ((w5.setRow N1 a1).setRow N2 a2).heap[N2]? = some (.cells a2 28 (0, 0)) ∧ Adds w ((w5.setRow N1 a1).setRow N2 a2) ∧ (w5.setRow N1 a1).heap[N2]? = some (.cells cs2 28 (0, 0)) := by
  have t1 := touch_row w5 N1 a1
  have t2 := touch_row (w5.setRow N1 a1) N2 a2
  have b2 : (w5.setRow N1 a1).heap[N2]? = some (.cells cs2 28 (0, 0)) := by
    rw [t1.block N2 (Array.getElem?_eq_some_iff.1 h2).1 (fun c => hne c.symm)]; exact h2
  have b1 := setRow_heap w5 N1 _ a1 28 _ h1
  refine ⟨(h.touch t1 h1).touch t2 b2, ?_, setRow_heap _ N2 _ a2 28 _ b2, (hA.then t1 (fun j hj e => by omega)).then t2 (fun j hj e => by omega), b2⟩
  rw [t2.block N1 (Array.getElem?_eq_some_iff.1 b1).1 hne]; exact b1
theorem st_keep {w W : World} {N0 N1 : Nat} {bx : Obj} {cs : Array Value} (h : Adds w W ∧ W.heap[N0]? = some bx) (hne : N0 ≠ N1) (hL : w.heap.size ≤ N1) : Adds w (W.setRow N1 cs) ∧ (W.setRow N1 cs).heap[N0]? = some bx :=
  ⟨h.1.then (touch_row W N1 cs) (fun j hj e => by omega), by rw [(touch_row W N1 cs).block N0 (Array.getElem?_eq_some_iff.1 h.2).1 hne]; exact h.2⟩
/-- What lies there once both are stored. -/
def CutE (w : World) (A B : N.Nd) (N1 N2 : Nat) (zA zB : NM) (wx : World) : Prop := wx.heap[N1]? = some (.cells #[.bool zA.leaf, zA.kv, zA.vv, zA.iv] 28 (0, 0)) ∧ wx.heap[N2]? = some (.cells #[.bool zB.leaf, zB.kv, zB.vv, zB.iv] 28 (0, 0)) ∧ (zA.nd = A ∧ NOwn wx w.heap.size zA) ∧ (zB.nd = B ∧ NOwn wx w.heap.size zB) ∧ Adds w wx ∧ ∃ C, C ≤ wx.heap.size ∧ NLt C zA ∧ NOwn wx C zB
theorem cut_end {w w6 : World} {A B : N.Nd} {N1 N2 : Nat} {zA zB : NM} (ha : zA.nd = A ∧ NOwn w6 w.heap.size zA) (hb : zB.nd = B ∧ NOwn w6 w.heap.size zB) (hA : Adds w w6) (h1 : w6.heap[N1]? = some NZ) (h2 : w6.heap[N2]? = some NZ) (hne : N1 ≠ N2) (hL : w.heap.size ≤ N1) (hL2 : w.heap.size ≤ N2) (hC : ∃ C, C ≤ w6.heap.size ∧ NLt C zA ∧ NOwn w6 C zB) :
    CutE w A B N1 N2 zA zB ((w6.setRow N1 #[.bool zA.leaf, zA.kv, zA.vv, zA.iv]).setRow N2 #[.bool zB.leaf, zB.kv, zB.vv, zB.iv]) := by
  have t := fun (C : Nat) (z : NM) (h : NOwn w6 C z) => two_store (a1 := #[.bool zA.leaf, zA.kv, zA.vv, zA.iv]) (a2 := #[.bool zB.leaf, zB.kv, zB.vv, zB.iv]) h h1 h2 hne hA hL hL2
  have q := t _ _ ha.2
  obtain ⟨C, hc, hd⟩ := hC
  exact ⟨q.2.1, q.2.2.1, ⟨ha.1, q.1⟩, ⟨hb.1, (t _ _ hb.2).1⟩, q.2.2.2.1, C, (by show C ≤ _; simp; exact hc), hd.1, (t _ _ hd.2).1⟩
theorem cut_a {w w4 w5 w6 : World} {A B : N.Nd} {N1 N2 : Nat} {zA zB : NM} (h4 : Adds w w4) (h5 : zA.nd = A ∧ NOwn w5 w4.heap.size zA ∧ Adds w4 w5) (h6 : zB.nd = B ∧ NOwn w6 w5.heap.size zB ∧ Adds w5 w6) (h1 : w4.heap[N1]? = some NZ) (h2 : w4.heap[N2]? = some NZ) (hne : N1 ≠ N2) (hL : w.heap.size ≤ N1) (hL2 : w.heap.size ≤ N2) :
    CutE w A B N1 N2 zA zB ((w6.setRow N1 #[.bool zA.leaf, zA.kv, zA.vv, zA.iv]).setRow N2 #[.bool zB.leaf, zB.kv, zB.vv, zB.iv]) :=
  cut_end ⟨h5.1, (h5.2.1.adds h6.2.2).lower h4.size⟩ ⟨h6.1, h6.2.1.lower (h4.trans h5.2.2).size⟩ ((h4.trans h5.2.2).trans h6.2.2) (box_adds h1 (h5.2.2.trans h6.2.2)) (box_adds h2 (h5.2.2.trans h6.2.2)) hne hL hL2 ⟨w5.heap.size, h6.2.2.size, h5.2.1.lt, h6.2.1⟩
set_option maxRecDepth 100000 in
set_option maxHeartbeats 8000000 in
theorem ncut_any (x : NM) (w : World) {Q : Nat → Prop} (hx : NQ w Q x) (hb : N.Bd 900 x.nd) : Calls Try.prog 29 #[x.val] w (PCutN w (N.cutA x.nd) (N.cutB x.nd) (N.cutE x.nd)) := by
  have sx := hb.ns (by decide)
  obtain ⟨N0, N1, N2, w2, hN0, hN1, hN2, hw2, HA2, HB0, HB1, HB2, HL⟩ := nopen3 w #[.bool x.leaf, .slice x.ka x.ks.length x.kc, .slice x.v.a x.v.l.length x.v.cap, .slice x.ia x.is.length x.ic]
  have HNe := hid (show N1 ≠ N2 by omega)
  have HN01 := hid (show N0 ≠ N1 by omega)
  have HN02 := hid (show N0 ≠ N2 by omega)
  have HL2 := hid (show w.heap.size ≤ N2 by have := HL.out; omega)
  obtain ⟨r, hr⟩ : ∃ r, r = N.right x.nd := ⟨_, rfl⟩
  have HC := hid (show Calls Try.prog 15 #[x.val] w2 (Adding (.bool r) w2) by rw [hr]; exact nright_any x w2 (hx.adds HA2.out) sx)
  have HR := hid hr
  have HX := hid hx
  have HSx := hid sx
  have HBd := hid hb
  obtain ⟨kn, hkn⟩ : ∃ kn, kn = x.ks.length := ⟨_, rfl⟩
  have hk9 : kn ≤ 900 := by rw [hkn]; exact hb.k
  have HKn := hid hkn
  have hv : x.val = .agg #[.bool x.leaf, .slice x.ka kn x.kc, .slice x.v.a x.v.l.length x.v.cap, .slice x.ia x.is.length x.ic] := by rw [hkn]
  have HV := hid hv
  rw [hv] at HC ⊢
  rw [← hkn] at hw2 HB0
  clear hx sx hb hr hkn hv
  go_enter Try.func29, Try.ntmps29
  go_upto_region 1 with fail
  rw [← hw2, ← hN0, ← hN1, ← hN2]
  clear hw2 hN0 hN1 hN2
  obtain ⟨c0, c1, c2, c3⟩ := box_cells HB0.out
  cases r with
  | false =>
    have hE : N.cutE x.nd = 22 := by unfold N.cutE; rw [← HR.out]; rfl
    have HE := hid (show N.cutE x.nd = 22 ∧ N.cutA x.nd = N.nil ∧ N.cutB x.nd = N.nil from ⟨hE, by unfold N.cutA; rw [if_neg (by rw [hE]; decide)], by unfold N.cutB; rw [if_neg (by rw [hE]; decide)]⟩)
    clear hE
    go_upto_region 2 with (go_at_call 15; refine HC.out.mono ?_; rintro e w3 ⟨rfl, hA3⟩; have H3 := hid hA3; clear hA3)
    clear c0 c1 c2 c3
    have HB3 := hid (box_adds HB1.out H3.out)
    have HB4 := hid (box_adds HB2.out H3.out)
    have HT := hid (two_store (w := w) (a1 := #[.bool false, .slice .none 0 0, .slice .none 0 0, .slice .none 0 0]) (a2 := #[.bool false, .slice .none 0 0, .slice .none 0 0, .slice .none 0 0]) (NOwn.none w3 w.heap.size) HB3.out HB4.out HNe.out (HA2.out.trans H3.out) HL.out HL2.out)
    go_wp2_with (first
      | (refine wpList_store_row rfl 28 _ _ rfl N1 #[.bool false, .slice .none 0 0, .slice .none 0 0, .slice .none 0 0] rfl rfl 28 _ HB3.out (info4 _ _ _ _) rfl (one4 _ _ _ _ _ _ _ _ _ _) ?_)
      | (refine wpList_store_row rfl 28 _ _ rfl N2 #[.bool false, .slice .none 0 0, .slice .none 0 0, .slice .none 0 0] rfl rfl 28 _ HT.out.2.2.2.2 (info4 _ _ _ _) rfl (one4 _ _ _ _ _ _ _ _ _ _) ?_))
    refine bodyPost_ret (results_n3 rfl _ _ N1 N2 _ _ rfl rfl HT.out.2.1 rfl HT.out.2.2.1 rfl) rfl ?_
    rw [HE.out.1, HE.out.2.1, HE.out.2.2]
    exact ⟨NM.none, NM.none, rfl, ⟨rfl, HT.out.1⟩, ⟨rfl, HT.out.1⟩, HT.out.2.2.2.1, 0, Nat.zero_le _, ⟨fun j hj => (by cases hj), fun j hj => (by cases hj), fun j hj => (by cases hj), fun p hp => (by cases hp)⟩, NOwn.none _ _⟩
  | true =>
    by_cases h2 : kn < 2
    · have h2z : (kn : Int) < 2 := by omega
      have hE : N.cutE x.nd = 40 := by unfold N.cutE; rw [← HR.out, if_neg (by decide), if_pos (by rw [show x.nd.keys.length = kn from HKn.out.symm]; exact h2)]
      have HE := hid (show N.cutE x.nd = 40 ∧ N.cutA x.nd = N.nil ∧ N.cutB x.nd = N.nil from ⟨hE, by unfold N.cutA; rw [if_neg (by rw [hE]; decide)], by unfold N.cutB; rw [if_neg (by rw [hE]; decide)]⟩)
      clear hE h2
      go_upto_region 3 with (go_at_call 15; refine HC.out.mono ?_; rintro e w3 ⟨rfl, hA3⟩; have H3 := hid hA3; obtain ⟨q0, q1, q2, q3⟩ := box_cells (box_adds HB0.out hA3); clear hA3)
      clear c0 c1 c2 c3
      have HB3 := hid (box_adds HB1.out H3.out)
      have HB4 := hid (box_adds HB2.out H3.out)
      have HT := hid (two_store (w := w) (a1 := #[.bool false, .slice .none 0 0, .slice .none 0 0, .slice .none 0 0]) (a2 := #[.bool false, .slice .none 0 0, .slice .none 0 0, .slice .none 0 0]) (NOwn.none w3 w.heap.size) HB3.out HB4.out HNe.out (HA2.out.trans H3.out) HL.out HL2.out)
      go_wp2_with (first
        | (refine wpList_store_row rfl 28 _ _ rfl N1 #[.bool false, .slice .none 0 0, .slice .none 0 0, .slice .none 0 0] rfl rfl 28 _ HB3.out (info4 _ _ _ _) rfl (one4 _ _ _ _ _ _ _ _ _ _) ?_)
        | (refine wpList_store_row rfl 28 _ _ rfl N2 #[.bool false, .slice .none 0 0, .slice .none 0 0, .slice .none 0 0] rfl rfl 28 _ HT.out.2.2.2.2 (info4 _ _ _ _) rfl (one4 _ _ _ _ _ _ _ _ _ _) ?_))
      refine bodyPost_ret (results_n3 rfl _ _ N1 N2 _ _ rfl rfl HT.out.2.1 rfl HT.out.2.2.1 rfl) rfl ?_
      rw [HE.out.1, HE.out.2.1, HE.out.2.2]
      exact ⟨NM.none, NM.none, rfl, ⟨rfl, HT.out.1⟩, ⟨rfl, HT.out.1⟩, HT.out.2.2.2.1, 0, Nat.zero_le _, ⟨fun j hj => (by cases hj), fun j hj => (by cases hj), fun j hj => (by cases hj), fun p hp => (by cases hp)⟩, NOwn.none _ _⟩
    · have h2z : ¬ (kn : Int) < 2 := by omega
      have hE : N.cutE x.nd = 0 := by unfold N.cutE; rw [← HR.out, if_neg (by decide), if_neg (by rw [show x.nd.keys.length = kn from HKn.out.symm]; exact h2)]
      obtain ⟨m, hm⟩ : ∃ m, m = N.middle x.nd := ⟨_, rfl⟩
      have hmk : m ≤ kn := by rw [hm, HKn.out]; exact N.mid_lt _ _
      have HM := hid hm
      have HE := hid (show N.cutE x.nd = 0 ∧ N.cutA x.nd = N.without x.nd m kn ∧ N.cutB x.nd = N.without x.nd 0 m from ⟨hE, by unfold N.cutA; rw [if_pos hE, hm]; rw [show x.nd.keys.length = kn from HKn.out.symm], by unfold N.cutB; rw [if_pos hE, hm]⟩)
      obtain ⟨ndA, hndA⟩ : ∃ n, n = N.without x.nd m kn := ⟨_, rfl⟩
      obtain ⟨ndB, hndB⟩ : ∃ n, n = N.without x.nd 0 m := ⟨_, rfl⟩
      have HCm := hid (fun (w' : World) (hA : Adds w w') => show Calls Try.prog 60 #[.agg #[.bool x.leaf, .slice x.ka kn x.kc, .slice x.v.a x.v.l.length x.v.cap, .slice x.ia x.is.length x.ic]] w' (Adding (.int .i64 (m : Int)) w') by
        rw [hm, ← HV.out]; exact nmiddle_any x w' (HX.out.adds hA) HSx.out HR.out.symm)
      have HCa := hid (fun (w' : World) (hA : Adds w w') => show Calls Try.prog 58 #[.agg #[.bool x.leaf, .slice x.ka kn x.kc, .slice x.v.a x.v.l.length x.v.cap, .slice x.ia x.is.length x.ic], .int .i64 (m : Int), .int .i64 (kn : Int)] w' (PNd w' ndA) by
        rw [hndA, ← HV.out]; exact PNode.nd (nwithout_any x m kn w' (HX.out.adds hA) HSx.out (by rw [← HKn.out]; exact hmk) (by rw [← HKn.out]; exact Nat.le_refl _) (right_len HR.out.symm).1 (right_len HR.out.symm).2))
      have HCb := hid (fun (w' : World) (hA : Adds w w') => show Calls Try.prog 58 #[.agg #[.bool x.leaf, .slice x.ka kn x.kc, .slice x.v.a x.v.l.length x.v.cap, .slice x.ia x.is.length x.ic], .int .i64 0, .int .i64 (m : Int)] w' (PNd w' ndB) by
        rw [hndB, ← HV.out]; exact PNode.nd (nwithout_any x 0 m w' (HX.out.adds hA) HSx.out (Nat.zero_le _) (by rw [← HKn.out]; exact hmk) (right_len HR.out.symm).1 (right_len HR.out.symm).2))
      have HE2 := hid (show N.cutE x.nd = 0 ∧ N.cutA x.nd = ndA ∧ N.cutB x.nd = ndB by rw [hndA, hndB]; exact HE.out)
      clear hE h2 hm hndA hndB HE
      go_upto_region 5 with (go_at_call 15; refine HC.out.mono ?_; rintro e w3 ⟨rfl, hA3⟩; have H3 := hid hA3; obtain ⟨q0, q1, q2, q3⟩ := box_cells (box_adds HB0.out hA3); clear hA3)
      clear c0 c1 c2 c3 HC
      have A3 := hid (HA2.out.trans H3.out)
      have X3 := hid (box_adds HB0.out H3.out)
      go_upto_region 6 with (first
        | (refine wpList_load_row rfl 28 _ rfl N0 rfl 28 _ _ _ X3.out Try.underlying28 rfl (info4 _ _ _ _) ?_)
        | (go_at_call 60; refine (HCm.out w3 A3.out).mono ?_; rintro e w4 ⟨rfl, hA4⟩; have H4 := hid hA4; clear hA4))
      clear q0 q1 q2 q3 HCm
      have A4 := hid (A3.out.trans H4.out)
      have X4 := hid (box_adds X3.out H4.out)
      have Y4 := hid (box_adds HB1.out (H3.out.trans H4.out))
      have Z4 := hid (box_adds HB2.out (H3.out.trans H4.out))
      go_cut [4] (fun t wx => ∃ (lA : Bool) (kaA : Option Addr) (kcA : Nat) (ksA : List (List UInt8)) (gA : Pl) (iaA : Option Addr) (icA : Nat) (isA : List Int) (lB : Bool) (kaB : Option Addr) (kcB : Nat) (ksB : List (List UInt8)) (gB : Pl) (iaB : Option Addr) (icB : Nat) (isB : List Int), t = .int .i64 0 ∧ Hid (CutE w ndA ndB N1 N2 ⟨lA, kaA, kcA, ksA, gA, iaA, icA, isA⟩ ⟨lB, kaB, kcB, ksB, gB, iaB, icB, isB⟩ wx))
      case first =>
        refine Pe_begin (S := fun W : World => Adds w W ∧ W.heap[N0]? = some (.cells #[.bool x.leaf, .slice x.ka kn x.kc, .slice x.v.a x.v.l.length x.v.cap, .slice x.ia x.is.length x.ic] 28)) (X := 12) (by kernel_rfl) ?_
        have hS : (fun W : World => Adds w W ∧ W.heap[N0]? = some (.cells #[.bool x.leaf, .slice x.ka kn x.kc, .slice x.v.a x.v.l.length x.v.cap, .slice x.ia x.is.length x.ic] 28)) w4.drew := ⟨A4.out.trans (adds_dr w4), box_adds X4.out (adds_dr w4)⟩
        refine Pe_put (i := 0) 21 (v := .agg #[.bool x.leaf, .slice x.ka kn x.kc, .slice x.v.a x.v.l.length x.v.cap, .slice x.ia x.is.length x.ic]) rfl rfl (by kernel_rfl) (by kernel_rfl) (by kernel_rfl) (by kernel_rfl) (fun _ _ _ h => h) (Or.inl ⟨by rfl, fun w' hw' => ?_⟩) hS ?_
        · (obtain ⟨c0, c1, c2, c3⟩ := box_cells hw'.2; clear hw'; go_simp)
        simp only [Act.put, List.setIfInBounds_toArray, List.set_cons_zero, List.set_cons_succ]
        refine Pe_put (i := 1) 22 (v := .int .i64 (m : Int)) rfl rfl (by kernel_rfl) (by kernel_rfl) (by kernel_rfl) (by kernel_rfl) (fun _ _ _ h => h) (Or.inl ⟨by rfl, fun w' hw' => ?_⟩) hS ?_
        · go_simp
        simp only [Act.put, List.setIfInBounds_toArray, List.set_cons_zero, List.set_cons_succ]
        refine Pe_put (i := 2) 23 (v := .pointer (some ⟨N0, 1, none⟩)) rfl rfl (by kernel_rfl) (by kernel_rfl) (by kernel_rfl) (by kernel_rfl) (fun _ _ _ h => h) (Or.inl ⟨by rfl, fun w' hw' => ?_⟩) hS ?_
        · go_simp
        simp only [Act.put, List.setIfInBounds_toArray, List.set_cons_zero, List.set_cons_succ]
        refine Pe_put (i := 3) 24 (v := .slice x.ka kn x.kc) rfl rfl (by kernel_rfl) (by kernel_rfl) (by kernel_rfl) (by kernel_rfl) (fun _ _ _ h => h) (Or.inl ⟨by rfl, fun w' hw' => ?_⟩) hS ?_
        · (obtain ⟨_, c, _, _⟩ := box_cells hw'.2; clear hw'; go_simp)
        simp only [Act.put, List.setIfInBounds_toArray, List.set_cons_zero, List.set_cons_succ]
        refine Pe_put (i := 4) 25 (v := .int .i64 (kn : Int)) rfl rfl (by kernel_rfl) (by kernel_rfl) (by kernel_rfl) (by kernel_rfl) (fun _ _ _ h => h) (Or.inl ⟨by rfl, fun w' hw' => ?_⟩) hS ?_
        · go_simp
        simp only [Act.put, List.setIfInBounds_toArray, List.set_cons_zero, List.set_cons_succ]
        refine Pe_put (i := 6) 27 (v := .agg #[.bool x.leaf, .slice x.ka kn x.kc, .slice x.v.a x.v.l.length x.v.cap, .slice x.ia x.is.length x.ic]) rfl rfl (by kernel_rfl) (by kernel_rfl) (by kernel_rfl) (by kernel_rfl) (fun _ _ _ h => h) (Or.inl ⟨by rfl, fun w' hw' => ?_⟩) hS ?_
        · (obtain ⟨c0, c1, c2, c3⟩ := box_cells hw'.2; clear hw'; go_simp)
        simp only [Act.put, List.setIfInBounds_toArray, List.set_cons_zero, List.set_cons_succ]
        refine Pe_put (i := 7) 28 (v := .int .i64 (m : Int)) rfl rfl (by kernel_rfl) (by kernel_rfl) (by kernel_rfl) (by kernel_rfl) (fun _ _ _ h => h) (Or.inl ⟨by rfl, fun w' hw' => ?_⟩) hS ?_
        · go_simp
        simp only [Act.put, List.setIfInBounds_toArray, List.set_cons_zero, List.set_cons_succ]
        refine Pe_call (i := 5) 26 58 #[.agg #[.bool x.leaf, .slice x.ka kn x.kc, .slice x.v.a x.v.l.length x.v.cap, .slice x.ia x.is.length x.ic], .int .i64 (m : Int), .int .i64 (kn : Int)] (by kernel_rfl) rfl rfl (by rfl) (by go_simp) (HCa.out _ hS.1) ?_
        rintro e w5 ⟨lA, kaA, kcA, ksA, gA, iaA, icA, isA, rfl, H5⟩
        have hS2 : (fun W : World => Adds w W ∧ W.heap[N0]? = some (.cells #[.bool x.leaf, .slice x.ka kn x.kc, .slice x.v.a x.v.l.length x.v.cap, .slice x.ia x.is.length x.ic] 28)) w5 := ⟨hS.1.trans H5.out.2.2, box_adds hS.2 H5.out.2.2⟩
        refine ⟨_, rfl, fun _ => hS2, ?_⟩
        clear hS; have hS := hS2; clear hS2
        simp only [Act.put, List.setIfInBounds_toArray, List.set_cons_zero, List.set_cons_succ]
        refine Pe_call (i := 8) 29 58 #[.agg #[.bool x.leaf, .slice x.ka kn x.kc, .slice x.v.a x.v.l.length x.v.cap, .slice x.ia x.is.length x.ic], .int .i64 0, .int .i64 (m : Int)] (by kernel_rfl) rfl rfl (by rfl) (by go_simp) (HCb.out _ hS.1) ?_
        rintro e w6 ⟨lB, kaB, kcB, ksB, gB, iaB, icB, isB, rfl, H6⟩
        have hS2 : (fun W : World => Adds w W ∧ W.heap[N0]? = some (.cells #[.bool x.leaf, .slice x.ka kn x.kc, .slice x.v.a x.v.l.length x.v.cap, .slice x.ia x.is.length x.ic] 28)) w6 := ⟨hS.1.trans H6.out.2.2, box_adds hS.2 H6.out.2.2⟩
        refine ⟨_, rfl, fun _ => hS2, ?_⟩
        clear hS; have hS := hS2; clear hS2
        simp only [Act.put, List.setIfInBounds_toArray, List.set_cons_zero, List.set_cons_succ]
        have HEnd := hid (cut_a (zA := ⟨lA, kaA, kcA, ksA, gA, iaA, icA, isA⟩) (zB := ⟨lB, kaB, kcB, ksB, gB, iaB, icB, isB⟩) (A4.out.trans (adds_dr w4)) H5.out H6.out (box_adds Y4.out (adds_dr w4)) (box_adds Z4.out (adds_dr w4)) HNe.out HL.out HL2.out)
        have Y6 := hid (box_adds Y4.out ((adds_dr w4).trans (H5.out.2.2.trans H6.out.2.2)))
        have Z6 := hid (box_adds Z4.out ((adds_dr w4).trans (H5.out.2.2.trans H6.out.2.2)))
        have HT := hid (two_store (w := w) (a1 := #[.bool lA, .slice kaA ksA.length kcA, .slice gA.a gA.l.length gA.cap, .slice iaA isA.length icA]) (a2 := #[.bool lB, .slice kaB ksB.length kcB, .slice gB.a gB.l.length gB.cap, .slice iaB isB.length icB]) (NOwn.none w6 w.heap.size) Y6.out Z6.out HNe.out hS.1 HL.out HL2.out)
        refine Pe_do (i := 9) none (by kernel_rfl) rfl rfl rfl (fun K' hK => ?_)
        refine Go.wp_store_row 28 _ _ rfl N1 #[.bool lA, .slice kaA ksA.length kcA, .slice gA.a gA.l.length gA.cap, .slice iaA isA.length icA] rfl rfl 28 _ Y6.out (info4 _ _ _ _) rfl (one4 _ _ _ _ _ _ _ _ _ _) ?_
        have hS2 := st_keep (cs := #[.bool lA, .slice kaA ksA.length kcA, .slice gA.a gA.l.length gA.cap, .slice iaA isA.length icA]) hS HN01.out HL.out
        refine hK _ _ (fun _ => hS2) ?_
        clear hS; have hS := hS2; clear hS2
        simp only [Act.put]
        refine Pe_do (i := 10) none (by kernel_rfl) rfl rfl rfl (fun K' hK => ?_)
        refine Go.wp_store_row 28 _ _ rfl N2 #[.bool lB, .slice kaB ksB.length kcB, .slice gB.a gB.l.length gB.cap, .slice iaB isB.length icB] rfl rfl 28 _ HT.out.2.2.2.2 (info4 _ _ _ _) rfl (one4 _ _ _ _ _ _ _ _ _ _) ?_
        have hS2 := st_keep (cs := #[.bool lB, .slice kaB ksB.length kcB, .slice gB.a gB.l.length gB.cap, .slice iaB isB.length icB]) hS HN02.out HL2.out
        refine hK _ _ (fun _ => hS2) ?_
        clear hS; have hS := hS2; clear hS2
        simp only [Act.put]
        refine Pe_put (i := 11) 4 (v := .int .i64 0) rfl rfl (by kernel_rfl) (by kernel_rfl) (by kernel_rfl) (by kernel_rfl) (fun _ _ _ h => h) (Or.inl ⟨by rfl, fun w' hw' => ?_⟩) hS ?_
        · go_simp
        refine Pe_done (by kernel_rfl) ?_ _
        clear hS
        simp only [Act.put, List.setIfInBounds_toArray, List.set_cons_zero, List.set_cons_succ]
        go_wp2
        go_meet
        case rel => exact ⟨lA, kaA, kcA, ksA, gA, iaA, icA, isA, lB, kaB, kcB, ksB, gB, iaB, icB, isB, rfl, HEnd⟩
      case rest =>
        obtain ⟨lA, kaA, kcA, ksA, gA, iaA, icA, isA, lB, kaB, kcB, ksB, gB, iaB, icB, isB, rfl, HCt⟩ := hcut
        go_wp2
        refine bodyPost_ret (results_n3 rfl _ _ N1 N2 _ _ rfl rfl HCt.out.1 rfl HCt.out.2.1 rfl) rfl ?_
        rw [HE2.out.1, HE2.out.2.1, HE2.out.2.2]
        exact ⟨⟨lA, kaA, kcA, ksA, gA, iaA, icA, isA⟩, ⟨lB, kaB, kcB, ksB, gB, iaB, icB, isB⟩, rfl, HCt.out.2.2⟩
end Go.Proofs.Ytplppnngmlljnaa

/- Two nodes joined. -/
namespace Go.Proofs.Ytplppnngmlljnaa
open Go.RowKit

/-- The boxes of two nodes that were handed in, and the block of the result. -/
theorem jopen (w : World) (bx bz : Array Value) : ∃ N0 N1 N2 w3, N0 = w.heap.size ∧ N1 = N0 + 1 ∧ N2 = N1 + 1 ∧ w3 = ((w.alloc (.cells bx 28)).alloc (.cells bz 28)).alloc NZ ∧ Hid (Adds w w3) ∧ Hid (w3.heap[N0]? = some (.cells bx 28)) ∧ Hid (w3.heap[N1]? = some (.cells bz 28)) ∧ Hid (w3.heap[N2]? = some NZ) ∧ Hid (w.heap.size ≤ N1) := by
  have e1 : (w.alloc (.cells bx 28)).heap.size = w.heap.size + 1 := by simp
  have e2 : ((w.alloc (.cells bx 28)).alloc (.cells bz 28)).heap.size = w.heap.size + 1 + 1 := by simp
  refine ⟨_, _, _, _, rfl, rfl, rfl, rfl, (((Touch.refl _ w).alloc _).alloc _).alloc _, box_adds (heap_alloc_new w _) (((Touch.refl _ _).alloc _).alloc _), ?_, ?_, ?_⟩
  · rw [← e1]; exact box_adds (heap_alloc_new _ _) ((Touch.refl _ _).alloc _)
  · rw [← e2]; exact heap_alloc_new _ _
  · exact (Nat.le_succ _ : w.heap.size ≤ w.heap.size + 1)
def N.joinB (b : N.Nd) (key : List UInt8) : N.Nd := if b.leaf then b else { b with keys := key :: b.keys.tail }
/-- The second node with its new keys. -/
theorem join_y {w w5 : World} {N1 B : Nat} {y : NM} {Q' : Nat → Prop} {a7 : Option Addr} {c7 n : Nat} {ks' : List (List UInt8)} (hy : NQ w Q' y) (hA : Adds w w5) (h5 : w5.ownsRow B 9 1 (.slice a7 n c7) n (Ss ks')) (hn : n = ks'.length) (hB : N1 < B) (hL : w.heap.size ≤ N1) (v : Value) :
    NQ (w5.setCell ⟨N1, 1, none⟩ v) (fun _ => True) ⟨y.leaf, a7, c7, ks', y.v, y.ia, y.ic, y.is⟩ ∧ Adds w (w5.setCell ⟨N1, 1, none⟩ v) := by
  subst hn
  have hT : Touch (fun j => j = N1) w5 (w5.setCell ⟨N1, 1, none⟩ v) := Touch.setCell (T := fun j => j = N1) (Touch.refl _ w5) (p := ⟨N1, 1, none⟩) (fun _ => rfl) _
  have hA6 := hA.then hT (fun j hj e => by omega)
  have q := hy.adds hA6
  obtain ⟨k1, k2, k3⟩ := row_q h5
  exact ⟨⟨(k3.touch hT (fun j hj e => by have h8 : B ≤ j := hj; have h9 : j = N1 := e; omega)).mono (fun _ _ _ => trivial), k2, k1, q.vals.mono (fun _ _ _ => trivial), q.vr, q.kids.mono (fun _ _ _ => trivial), q.inn, q.ir⟩, hA6⟩
theorem N.joinB_bd {m : Nat} {b : N.Nd} {key : List UInt8} (h : N.Bd m b) (hr : N.right b = true) (hk : key.length ≤ 1000) : N.Bd m (N.joinB b key) := by
  unfold N.joinB
  split
  · exact h
  · rename_i hl
    rcases (right_parts hr).2 with ⟨q0, _⟩ | ⟨q0, q1, q2, q3, q4, q5⟩
    · exact absurd q0 hl
    · refine ⟨?_, h.v, h.i, fun x hx => ?_, h.vl⟩
      · show (key :: b.keys.tail).length ≤ m
        rw [List.length_cons, List.length_tail]
        have := h.k
        omega
      · rcases List.mem_cons.1 hx with rfl | hx
        · exact hk
        · exact h.kl x (List.mem_of_mem_tail hx)
set_option maxRecDepth 100000 in
set_option maxHeartbeats 8000000 in
theorem njoin_any (x y : NM) (key : List UInt8) (w : World) {Q Q' : Nat → Prop} (hx : NQ w Q x) (hy : NQ w Q' y) (hbx : N.Bd 400 x.nd) (hby : N.Bd 400 y.nd) (hkl : key.length ≤ 1000) :
    Calls Try.prog 31 #[x.val, .string ⟨key.toArray⟩, y.val] w (PTnode w (N.join x.nd key y.nd)) := by
  have sx := (hbx.mono (m' := 900) (by decide)).ns (by decide)
  have sy := (hby.mono (m' := 900) (by decide)).ns (by decide)
  obtain ⟨N0, N1, N2, w3, hN0, hN1, hN2, hw3, HA3, HB0, HB1, HB2, HL⟩ := jopen w #[.bool x.leaf, .slice x.ka x.ks.length x.kc, .slice x.v.a x.v.l.length x.v.cap, .slice x.ia x.is.length x.ic] #[.bool y.leaf, .slice y.ka y.ks.length y.kc, .slice y.v.a y.v.l.length y.v.cap, .slice y.ia y.is.length y.ic]
  have HNe := hid (show N0 ≠ N1 ∧ N2 ≠ N1 ∧ w.heap.size ≤ N2 by have := HL.out; omega)
  obtain ⟨ra, hra⟩ : ∃ r, r = N.right x.nd := ⟨_, rfl⟩
  obtain ⟨rb, hrb⟩ : ∃ r, r = N.right y.nd := ⟨_, rfl⟩
  have HCx := hid (fun (w' : World) (hA : Adds w w') => show Calls Try.prog 15 #[x.val] w' (Adding (.bool ra) w') by rw [hra]; exact nright_any x w' (hx.adds hA) sx)
  have HCy := hid (fun (w' : World) (hA : Adds w w') => show Calls Try.prog 15 #[y.val] w' (Adding (.bool rb) w') by rw [hrb]; exact nright_any y w' (hy.adds hA) sy)
  have HRa := hid hra
  have HRb := hid hrb
  have HX := hid hx
  have HY := hid hy
  have HSx := hid sx
  have HSy := hid sy
  have HBx := hid hbx
  have HBy := hid hby
  have HKl := hid hkl
  obtain ⟨kn, hkn⟩ : ∃ kn, kn = x.ks.length := ⟨_, rfl⟩
  have hk9 : kn ≤ 400 := by rw [hkn]; exact hbx.k
  have HKn := hid hkn
  obtain ⟨xl, hxl⟩ : ∃ l, l = x.leaf := ⟨_, rfl⟩
  obtain ⟨yl, hyl⟩ : ∃ l, l = y.leaf := ⟨_, rfl⟩
  have HXl := hid hxl
  have HYl := hid hyl
  have hv : x.val = .agg #[.bool xl, .slice x.ka kn x.kc, .slice x.v.a x.v.l.length x.v.cap, .slice x.ia x.is.length x.ic] := by rw [hkn, hxl]
  have hv2 : y.val = .agg #[.bool yl, .slice y.ka y.ks.length y.kc, .slice y.v.a y.v.l.length y.v.cap, .slice y.ia y.is.length y.ic] := by rw [hyl]
  have HV := hid hv
  have HV2 := hid hv2
  rw [hv] at HCx ⊢
  rw [hv2] at HCy ⊢
  rw [← hkn, ← hxl, ← hyl] at hw3
  rw [← hkn, ← hxl] at HB0
  rw [← hyl] at HB1
  clear hx sx hy sy hbx hby hra hrb hkn hxl hyl hv hv2
  go_enter Try.func31, Try.ntmps31
  go_upto_region 1 with fail
  rw [← hw3, ← hN0, ← hN1, ← hN2]
  clear hw3 hN0 hN1 hN2
  cases ra with
  | false =>
    have HE := hid (show N.join x.nd key y.nd = (N.nil, 22) by unfold N.join; rw [if_pos (.inl HRa.out.symm)])
    go_upto_region 2 with (first
      | (refine wpList_load_row rfl 28 _ rfl N0 rfl 28 _ _ _ HB0.out Try.underlying28 rfl (info4 _ _ _ _) ?_)
      | (go_at_call 15; refine (HCx.out w3 HA3.out).mono ?_; rintro e w4 ⟨rfl, hA4⟩; have H4 := hid hA4; clear hA4))
    have HB4 := hid (box_adds HB2.out H4.out)
    go_wp2_with (refine wpList_store_row rfl 28 _ _ rfl N2 #[.bool false, .slice .none 0 0, .slice .none 0 0, .slice .none 0 0] rfl rfl 28 _ HB4.out (info4 _ _ _ _) rfl (one4 _ _ _ _ _ _ _ _ _ _) ?_)
    refine bodyPost_ret (results_n2 rfl _ _ N2 _ rfl (setRow_heap w4 N2 _ _ 28 _ HB4.out) rfl) rfl ?_
    rw [HE.out]
    exact ptnode_end (z := NM.none) rfl rfl (NOwn.none _ _) (HA3.out.trans H4.out) HB4.out HNe.out.2.2 _
  | true =>
  cases rb with
  | false =>
    have HE := hid (show N.join x.nd key y.nd = (N.nil, 22) by unfold N.join; rw [if_pos (.inr (.inl HRb.out.symm))])
    go_upto_region 2 with (first
      | (refine wpList_load_row rfl 28 _ rfl N0 rfl 28 _ _ _ HB0.out Try.underlying28 rfl (info4 _ _ _ _) ?_)
      | (refine wpList_load_g (by rfl) 28 _ rfl N1 0 rfl [.bool yl, .slice y.ka y.ks.length y.kc, .slice y.v.a y.v.l.length y.v.cap, .slice y.ia y.is.length y.ic] _ (rng_of (box_adds HB1.out H4.out)) Try.underlying28 rfl infoN.out ?_)
      | (go_at_call 15; refine (HCy.out w4 (HA3.out.trans H4.out)).mono ?_; rintro e w5 ⟨rfl, hA5⟩; have H5 := hid hA5; clear hA5)
      | (go_at_call 15; refine (HCx.out w3 HA3.out).mono ?_; rintro e w4 ⟨rfl, hA4⟩; have H4 := hid hA4; clear hA4))
    have HB5 := hid (box_adds HB2.out (H4.out.trans H5.out))
    go_wp2_with (refine wpList_store_row rfl 28 _ _ rfl N2 #[.bool false, .slice .none 0 0, .slice .none 0 0, .slice .none 0 0] rfl rfl 28 _ HB5.out (info4 _ _ _ _) rfl (one4 _ _ _ _ _ _ _ _ _ _) ?_)
    refine bodyPost_ret (results_n2 rfl _ _ N2 _ rfl (setRow_heap w5 N2 _ _ 28 _ HB5.out) rfl) rfl ?_
    rw [HE.out]
    exact ptnode_end (z := NM.none) rfl rfl (NOwn.none _ _) (HA3.out.trans (H4.out.trans H5.out)) HB5.out HNe.out.2.2 _
  | true =>
    cases xl with
    | true =>
      cases yl with
      | false =>
        have HE := hid (show N.join x.nd key y.nd = (N.nil, 22) by unfold N.join; rw [if_pos (.inr (.inr (show x.nd.leaf ≠ y.nd.leaf by rw [show x.nd.leaf = true from HXl.out.symm, show y.nd.leaf = false from HYl.out.symm]; decide)))])
        go_upto_region 2 with (first
          | (refine wpList_load_row rfl 28 _ rfl N0 rfl 28 _ _ _ HB0.out Try.underlying28 rfl (info4 _ _ _ _) ?_)
          | (refine wpList_load_g (by rfl) 28 _ rfl N1 0 rfl [.bool false, .slice y.ka y.ks.length y.kc, .slice y.v.a y.v.l.length y.v.cap, .slice y.ia y.is.length y.ic] _ (rng_of (box_adds HB1.out H4.out)) Try.underlying28 rfl infoN.out ?_)
          | (go_at_call 15; refine (HCy.out w4 (HA3.out.trans H4.out)).mono ?_; rintro e w5 ⟨rfl, hA5⟩; have H5 := hid hA5; clear hA5; obtain ⟨x0, _, _, _⟩ := box_cells (box_adds HB0.out (H4.out.trans H5.out)); obtain ⟨y0, _, _, _⟩ := box_cells (box_adds HB1.out (H4.out.trans H5.out)))
          | (go_at_call 15; refine (HCx.out w3 HA3.out).mono ?_; rintro e w4 ⟨rfl, hA4⟩; have H4 := hid hA4; clear hA4))
        clear x0 y0
        have HB5 := hid (box_adds HB2.out (H4.out.trans H5.out))
        go_wp2_with (refine wpList_store_row rfl 28 _ _ rfl N2 #[.bool false, .slice .none 0 0, .slice .none 0 0, .slice .none 0 0] rfl rfl 28 _ HB5.out (info4 _ _ _ _) rfl (one4 _ _ _ _ _ _ _ _ _ _) ?_)
        refine bodyPost_ret (results_n2 rfl _ _ N2 _ rfl (setRow_heap w5 N2 _ _ 28 _ HB5.out) rfl) rfl ?_
        rw [HE.out]
        exact ptnode_end (z := NM.none) rfl rfl (NOwn.none _ _) (HA3.out.trans (H4.out.trans H5.out)) HB5.out HNe.out.2.2 _
      | true =>
        obtain ⟨nd, hnd⟩ : ∃ nd, nd = N.change x.nd kn kn (N.joinB y.nd key) := ⟨_, rfl⟩
        have HE := hid (show N.join x.nd key y.nd = N.told nd by unfold N.join; rw [if_neg (fun c => c.elim (fun c => by rw [← HRa.out] at c; cases c) (fun c => c.elim (fun c => by rw [← HRb.out] at c; cases c) (fun c => c (by rw [show x.nd.leaf = true from HXl.out.symm, show y.nd.leaf = true from HYl.out.symm])))), hnd, HKn.out]; rfl)
        have HBn := hid (show N.Bd 1000 nd by rw [hnd]; exact (HBx.out.change (N.joinB_bd HBy.out HRb.out.symm HKl.out) (Nat.le_refl kn)).mono (by decide))
        go_upto_region 3 with (first
          | (refine wpList_load_row rfl 28 _ rfl N0 rfl 28 _ _ _ HB0.out Try.underlying28 rfl (info4 _ _ _ _) ?_)
          | (refine wpList_load_g (by rfl) 28 _ rfl N1 0 rfl [.bool true, .slice y.ka y.ks.length y.kc, .slice y.v.a y.v.l.length y.v.cap, .slice y.ia y.is.length y.ic] _ (rng_of (box_adds HB1.out H4.out)) Try.underlying28 rfl infoN.out ?_)
          | (go_at_call 15; refine (HCy.out w4 (HA3.out.trans H4.out)).mono ?_; rintro e w5 ⟨rfl, hA5⟩; have H5 := hid hA5; clear hA5; obtain ⟨x0, _, _, _⟩ := box_cells (box_adds HB0.out (H4.out.trans H5.out)); obtain ⟨y0, _, _, _⟩ := box_cells (box_adds HB1.out (H4.out.trans H5.out)))
          | (go_at_call 15; refine (HCx.out w3 HA3.out).mono ?_; rintro e w4 ⟨rfl, hA4⟩; have H4 := hid hA4; clear hA4))
        have A6 := hid (HA3.out.trans (H4.out.trans H5.out))
        have X6 := hid (box_adds HB0.out (H4.out.trans H5.out))
        have Y6 := hid (box_adds HB1.out (H4.out.trans H5.out))
        have Z6 := hid (box_adds HB2.out (H4.out.trans H5.out))
        clear x0
        go_upto_region 5 with fail
        clear y0
        have HCh := hid (show Calls Try.prog 55 #[.agg #[.bool true, .slice x.ka kn x.kc, .slice x.v.a x.v.l.length x.v.cap, .slice x.ia x.is.length x.ic], .int .i64 (kn : Int), .int .i64 (kn : Int), .agg #[.bool true, .slice y.ka y.ks.length y.kc, .slice y.v.a y.v.l.length y.v.cap, .slice y.ia y.is.length y.ic]] w5 (PNode w5 nd) by
          have e : N.joinB y.nd key = y.nd := by unfold N.joinB; rw [show y.nd.leaf = true from HYl.out.symm]; rfl
          rw [hnd, e, ← HV.out, ← HV2.out]
          exact nchange_any x y kn kn w5 (HX.out.adds A6.out) HSx.out (HY.out.adds A6.out) HSy.out (by rw [HKn.out]; exact Nat.le_refl _) (by rw [HKn.out]; exact Nat.le_refl _) (right_len HRa.out.symm).1 (right_len HRa.out.symm).2)
        clear hnd
        obtain ⟨x0, x1, _, _⟩ := box_cells X6.out
        go_wp2_with (first
          | (refine wpList_load_row rfl 28 _ rfl N0 rfl 28 _ _ _ X6.out Try.underlying28 rfl (info4 _ _ _ _) ?_)
          | (refine wpList_load_row rfl 28 _ rfl N1 rfl 28 _ _ _ Y6.out Try.underlying28 rfl (info4 _ _ _ _) ?_)
          | (go_at_call 55; refine HCh.out.mono ?_; rintro e w7 hp; obtain ⟨leaf, ka, kc, ks, va, vc, hs, ia, ic, zs, rfl, H7⟩ := hp.op; clear hp; have HWh := hid (whole_made (w1 := w) H7.out.1 H7.out.2.1 HBn.out A6.out.size))
          | (go_at_call 50; refine HWh.out.mono ?_; rintro e w8 ⟨leaf5, ka5, kc5, ks5, va5, vc5, hs5, ia5, ic5, zs5, rfl, H8⟩; have HB8 := hid (box_adds Z6.out (H7.out.2.2.trans H8.out.2.2)))
          | (refine wpList_store_row rfl 28 _ _ rfl N2 #[.bool leaf5, .slice ka5 ks5.length kc5, .slice va5 hs5.length vc5, .slice ia5 zs5.length ic5] rfl rfl 28 _ HB8.out (info4 _ _ _ _) rfl (one4 _ _ _ _ _ _ _ _ _ _) ?_))
        refine bodyPost_ret (results_n2 rfl _ _ N2 _ rfl (setRow_heap w8 N2 _ _ 28 _ HB8.out) rfl) rfl ?_
        rw [HE.out]
        exact ptnode_end (z := ⟨leaf5, ka5, kc5, ks5, ⟨va5, vc5, hs5⟩, ia5, ic5, zs5⟩) H8.out.1 rfl H8.out.2.1 ((A6.out.trans H7.out.2.2).trans H8.out.2.2) HB8.out HNe.out.2.2 _
    | false =>
      cases yl with
      | true =>
        have HE := hid (show N.join x.nd key y.nd = (N.nil, 22) by unfold N.join; rw [if_pos (.inr (.inr (show x.nd.leaf ≠ y.nd.leaf by rw [show x.nd.leaf = false from HXl.out.symm, show y.nd.leaf = true from HYl.out.symm]; decide)))])
        go_upto_region 2 with (first
          | (refine wpList_load_row rfl 28 _ rfl N0 rfl 28 _ _ _ HB0.out Try.underlying28 rfl (info4 _ _ _ _) ?_)
          | (refine wpList_load_g (by rfl) 28 _ rfl N1 0 rfl [.bool true, .slice y.ka y.ks.length y.kc, .slice y.v.a y.v.l.length y.v.cap, .slice y.ia y.is.length y.ic] _ (rng_of (box_adds HB1.out H4.out)) Try.underlying28 rfl infoN.out ?_)
          | (go_at_call 15; refine (HCy.out w4 (HA3.out.trans H4.out)).mono ?_; rintro e w5 ⟨rfl, hA5⟩; have H5 := hid hA5; clear hA5; obtain ⟨x0, _, _, _⟩ := box_cells (box_adds HB0.out (H4.out.trans H5.out)); obtain ⟨y0, _, _, _⟩ := box_cells (box_adds HB1.out (H4.out.trans H5.out)))
          | (go_at_call 15; refine (HCx.out w3 HA3.out).mono ?_; rintro e w4 ⟨rfl, hA4⟩; have H4 := hid hA4; clear hA4))
        clear x0 y0
        have HB5 := hid (box_adds HB2.out (H4.out.trans H5.out))
        go_wp2_with (refine wpList_store_row rfl 28 _ _ rfl N2 #[.bool false, .slice .none 0 0, .slice .none 0 0, .slice .none 0 0] rfl rfl 28 _ HB5.out (info4 _ _ _ _) rfl (one4 _ _ _ _ _ _ _ _ _ _) ?_)
        refine bodyPost_ret (results_n2 rfl _ _ N2 _ rfl (setRow_heap w5 N2 _ _ 28 _ HB5.out) rfl) rfl ?_
        rw [HE.out]
        exact ptnode_end (z := NM.none) rfl rfl (NOwn.none _ _) (HA3.out.trans (H4.out.trans H5.out)) HB5.out HNe.out.2.2 _
      | false =>
        obtain ⟨nd, hnd⟩ : ∃ nd, nd = N.change x.nd kn kn (N.joinB y.nd key) := ⟨_, rfl⟩
        have HE := hid (show N.join x.nd key y.nd = N.told nd by unfold N.join; rw [if_neg (fun c => c.elim (fun c => by rw [← HRa.out] at c; cases c) (fun c => c.elim (fun c => by rw [← HRb.out] at c; cases c) (fun c => c (by rw [show x.nd.leaf = false from HXl.out.symm, show y.nd.leaf = false from HYl.out.symm])))), hnd, HKn.out]; rfl)
        have HBn := hid (show N.Bd 1000 nd by rw [hnd]; exact (HBx.out.change (N.joinB_bd HBy.out HRb.out.symm HKl.out) (Nat.le_refl kn)).mono (by decide))
        go_upto_region 3 with (first
          | (refine wpList_load_row rfl 28 _ rfl N0 rfl 28 _ _ _ HB0.out Try.underlying28 rfl (info4 _ _ _ _) ?_)
          | (refine wpList_load_g (by rfl) 28 _ rfl N1 0 rfl [.bool false, .slice y.ka y.ks.length y.kc, .slice y.v.a y.v.l.length y.v.cap, .slice y.ia y.is.length y.ic] _ (rng_of (box_adds HB1.out H4.out)) Try.underlying28 rfl infoN.out ?_)
          | (go_at_call 15; refine (HCy.out w4 (HA3.out.trans H4.out)).mono ?_; rintro e w5 ⟨rfl, hA5⟩; have H5 := hid hA5; clear hA5; obtain ⟨x0, _, _, _⟩ := box_cells (box_adds HB0.out (H4.out.trans H5.out)); obtain ⟨y0, _, _, _⟩ := box_cells (box_adds HB1.out (H4.out.trans H5.out)))
          | (go_at_call 15; refine (HCx.out w3 HA3.out).mono ?_; rintro e w4 ⟨rfl, hA4⟩; have H4 := hid hA4; clear hA4))
        have A5 := hid (HA3.out.trans (H4.out.trans H5.out))
        have X5 := hid (box_adds HB0.out (H4.out.trans H5.out))
        have Y5 := hid (box_adds HB1.out (H4.out.trans H5.out))
        have Z5 := hid (box_adds HB2.out (H4.out.trans H5.out))
        clear x0
        go_upto_region 4 with fail
        clear y0
        obtain ⟨_, y1, _, _⟩ := box_cells Y5.out
        obtain ⟨yn, hyn⟩ : ∃ n, n = y.ks.length := ⟨_, rfl⟩
        have hy0 : 1 ≤ yn := by
          rcases (right_parts HRb.out.symm).2 with ⟨q0, _⟩ | ⟨q0, q1, q2, q3, q4, q5⟩
          · rw [show y.nd.leaf = false from HYl.out.symm] at q0; cases q0
          · rw [hyn]; exact q4
        have HYn := hid hyn
        have HSp := hid (show Calls Try.prog 61 #[.slice y.ka y.ks.length y.kc, .int .i64 0, .int .i64 1, .slice (some ⟨w5.heap.size, 0, none⟩) 1 1] (w5.alloc (.cells #[.string ⟨key.toArray⟩] 9)) (PRowV 9 (w5.alloc (.cells #[.string ⟨key.toArray⟩] 9)) (Ss (key :: y.ks.tail)) yn) by
          have hc : (w5.alloc (.cells #[.string ⟨key.toArray⟩] 9)).cell? ⟨w5.heap.size, 0, none⟩ = some (Str key) := by rw [cellOf (heap_alloc_new w5 (.cells #[.string ⟨key.toArray⟩] 9))]; rfl
          have q := spliceS_any y.ka (some ⟨w5.heap.size, 0, none⟩) (Ss y.ks) (Ss [key]) y.ks.length y.kc 1 1 0 1 (w5.alloc (.cells #[.string ⟨key.toArray⟩] 9)) (len_Ss _) rfl HY.out.kr (Nat.zero_le _) (by rw [← hyn]; exact hy0) HSy.out.k (by decide) (HY.out.keys.adds (A5.out.alloc _)) (cq_one hc) HY.out.kn (fun e => by cases e) (one_Ss _) (one_Ss _)
          have e : (Ss y.ks).take 0 ++ (Ss [key] ++ (Ss y.ks).drop 1) = Ss (key :: y.ks.tail) := by rw [List.take_zero, List.nil_append, List.drop_one]; simp [Ss]
          rw [e] at q
          exact PRowV.of q (by rw [len_Ss, List.length_cons, List.length_tail]; omega))
        clear hyn
        go_upto_region 5 with (go_at_call 61; refine HSp.out.mono ?_; rintro e w6 ⟨a7, c7, rfl, H6⟩; have HY6 := hid (box_adds Y5.out (((Touch.refl _ _).alloc _).trans H6.out.2)); obtain ⟨z0, z1, z2, z3⟩ := box_cells HY6.out; have zf := box_free HY6.out 1)
        clear y1 z0 z1 z2 z3 zf
        obtain ⟨w9, hw9⟩ : ∃ w9, w9 = w6.setCell ⟨N1, 1, none⟩ (.slice a7 yn c7) := ⟨_, rfl⟩
        have HJ := hid (show NQ w9 (fun _ => True) ⟨false, a7, c7, key :: y.ks.tail, y.v, y.ia, y.ic, y.is⟩ ∧ Adds w w9 by
          have q := join_y (N1 := N1) HY.out (A5.out.trans (((Touch.refl _ _).alloc _).trans H6.out.2)) H6.out.1 (by have hyn := HYn.out; rw [List.length_cons, List.length_tail]; omega) (by have := (Array.getElem?_eq_some_iff.1 Y5.out).1; simp; omega) HL.out (.slice a7 yn c7)
          rw [hw9]; rw [← HYl.out] at q; exact q)
        have hT9 : Touch (fun j => j = N1) w6 w9 := by rw [hw9]; exact Touch.setCell (T := fun j => j = N1) (Touch.refl _ w6) (p := ⟨N1, 1, none⟩) (fun _ => rfl) _
        have X6 := hid (show w9.heap[N0]? = some (.cells #[.bool false, .slice x.ka kn x.kc, .slice x.v.a x.v.l.length x.v.cap, .slice x.ia x.is.length x.ic] 28) by have q := box_adds X5.out (((Touch.refl _ _).alloc (.cells #[.string ⟨key.toArray⟩] 9)).trans H6.out.2); rw [hT9.block N0 (Array.getElem?_eq_some_iff.1 q).1 HNe.out.1]; exact q)
        have Z6 := hid (show w9.heap[N2]? = some NZ by have q := box_adds Z5.out (((Touch.refl _ _).alloc (.cells #[.string ⟨key.toArray⟩] 9)).trans H6.out.2); rw [hT9.block N2 (Array.getElem?_eq_some_iff.1 q).1 HNe.out.2.1]; exact q)
        have Y6 := hid (show w9.heap[N1]? = some (.cells #[.bool false, .slice a7 yn c7, .slice y.v.a y.v.l.length y.v.cap, .slice y.ia y.is.length y.ic] 28) by rw [hw9, heap_setCell_same w6 N1 1 _ 28 _ HY6.out]; rfl)
        have A6 := hid HJ.out.2
        rw [← hw9]
        clear hw9 hT9 HY6
        have HCh := hid (show Calls Try.prog 55 #[.agg #[.bool false, .slice x.ka kn x.kc, .slice x.v.a x.v.l.length x.v.cap, .slice x.ia x.is.length x.ic], .int .i64 (kn : Int), .int .i64 (kn : Int), .agg #[.bool false, .slice a7 yn c7, .slice y.v.a y.v.l.length y.v.cap, .slice y.ia y.is.length y.ic]] w9 (PNode w9 nd) by
          have e : N.joinB y.nd key = NM.nd ⟨false, a7, c7, key :: y.ks.tail, y.v, y.ia, y.ic, y.is⟩ := by unfold N.joinB; rw [show y.nd.leaf = false from HYl.out.symm]; rfl
          have el : yn = (key :: y.ks.tail).length := by have hyn := HYn.out; rw [List.length_cons, List.length_tail]; omega
          have hsy : NS ⟨false, a7, c7, key :: y.ks.tail, y.v, y.ia, y.ic, y.is⟩ := N.Bd.ns (m := 400) (by rw [← e]; exact N.joinB_bd HBy.out HRb.out.symm HKl.out) (by decide)
          rw [hnd, e, ← HV.out, el]
          exact nchange_any x ⟨false, a7, c7, key :: y.ks.tail, y.v, y.ia, y.ic, y.is⟩ kn kn w9 (HX.out.adds A6.out) HSx.out HJ.out.1 hsy (by rw [HKn.out]; exact Nat.le_refl _) (by rw [HKn.out]; exact Nat.le_refl _) (right_len HRa.out.symm).1 (right_len HRa.out.symm).2)
        clear hnd
        obtain ⟨x0, x1, _, _⟩ := box_cells X6.out
        go_wp2_with (first
          | (refine wpList_load_row rfl 28 _ rfl N0 rfl 28 _ _ _ X6.out Try.underlying28 rfl (info4 _ _ _ _) ?_)
          | (refine wpList_load_row rfl 28 _ rfl N1 rfl 28 _ _ _ Y6.out Try.underlying28 rfl (info4 _ _ _ _) ?_)
          | (go_at_call 55; refine HCh.out.mono ?_; rintro e w7 hp; obtain ⟨leaf, ka, kc, ks, va, vc, hs, ia, ic, zs, rfl, H7⟩ := hp.op; clear hp; have HWh := hid (whole_made (w1 := w) H7.out.1 H7.out.2.1 HBn.out A6.out.size))
          | (go_at_call 50; refine HWh.out.mono ?_; rintro e w8 ⟨leaf5, ka5, kc5, ks5, va5, vc5, hs5, ia5, ic5, zs5, rfl, H8⟩; have HB8 := hid (box_adds Z6.out (H7.out.2.2.trans H8.out.2.2)))
          | (refine wpList_store_row rfl 28 _ _ rfl N2 #[.bool leaf5, .slice ka5 ks5.length kc5, .slice va5 hs5.length vc5, .slice ia5 zs5.length ic5] rfl rfl 28 _ HB8.out (info4 _ _ _ _) rfl (one4 _ _ _ _ _ _ _ _ _ _) ?_))
        refine bodyPost_ret (results_n2 rfl _ _ N2 _ rfl (setRow_heap w8 N2 _ _ 28 _ HB8.out) rfl) rfl ?_
        rw [HE.out]
        exact ptnode_end (z := ⟨leaf5, ka5, kc5, ks5, ⟨va5, vc5, hs5⟩, ia5, ic5, zs5⟩) H8.out.1 rfl H8.out.2.1 ((A6.out.trans H7.out.2.2).trans H8.out.2.2) HB8.out HNe.out.2.2 _
end Go.Proofs.Ytplppnngmlljnaa

/- The reference: two nodes joined. -/
namespace Go.Proofs.Ytplppnngmlljnaa
open Go.RowKit

set_option maxRecDepth 100000 in
set_option maxHeartbeats 8000000 in
theorem rjoin_any (x y : NM) (key : List UInt8) (w : World) {Q Q' : Nat → Prop} (hx : NQ w Q x) (hy : NQ w Q' y) (hbx : N.Bd 400 x.nd) (hby : N.Bd 400 y.nd) (hkl : key.length ≤ 1000) :
    Calls Try.prog 32 #[x.val, .string ⟨key.toArray⟩, y.val] w (PQT w (fun k => (Q k ∨ Q' k) ∨ w.heap.size ≤ k) (N.join x.nd key y.nd)) := by
  have sx := (hbx.mono (m' := 900) (by decide)).ns (by decide)
  have sy := (hby.mono (m' := 900) (by decide)).ns (by decide)
  obtain ⟨N0, N1, N2, w3, hN0, hN1, hN2, hw3, HA3, HB0, HB1, HB2, HL⟩ := ropen w #[.bool x.leaf, .slice x.ka x.ks.length x.kc, .slice x.v.a x.v.l.length x.v.cap, .slice x.ia x.is.length x.ic] #[.bool y.leaf, .slice y.ka y.ks.length y.kc, .slice y.v.a y.v.l.length y.v.cap, .slice y.ia y.is.length y.ic]
  have HNe := hid (show N0 ≠ N1 ∧ N2 ≠ N1 ∧ w.heap.size ≤ N2 by have := HL.out; omega)
  have HNe0 := hid (show w.heap.size ≤ N0 ∧ N1 = N0 + 1 from ⟨HL.out, hN1⟩)
  obtain ⟨ra, hra⟩ : ∃ r, r = N.right x.nd := ⟨_, rfl⟩
  obtain ⟨rb, hrb⟩ : ∃ r, r = N.right y.nd := ⟨_, rfl⟩
  have HCx := hid (fun (w' : World) (hA : Adds w w') => show Calls Try.prog 16 #[x.val] w' (Adding (.bool ra) w') by rw [hra]; exact rright_any x w' (hx.adds hA) sx)
  have HCy := hid (fun (w' : World) (hA : Adds w w') => show Calls Try.prog 16 #[y.val] w' (Adding (.bool rb) w') by rw [hrb]; exact rright_any y w' (hy.adds hA) sy)
  have HRa := hid hra
  have HRb := hid hrb
  have HX := hid hx
  have HY := hid hy
  have HSx := hid sx
  have HSy := hid sy
  have HBx := hid hbx
  have HBy := hid hby
  have HKl := hid hkl
  obtain ⟨kn, hkn⟩ : ∃ kn, kn = x.ks.length := ⟨_, rfl⟩
  have hk9 : kn ≤ 400 := by rw [hkn]; exact hbx.k
  have HKn := hid hkn
  obtain ⟨xl, hxl⟩ : ∃ l, l = x.leaf := ⟨_, rfl⟩
  obtain ⟨yl, hyl⟩ : ∃ l, l = y.leaf := ⟨_, rfl⟩
  have HXl := hid hxl
  have HYl := hid hyl
  have hv : x.val = .agg #[.bool xl, .slice x.ka kn x.kc, .slice x.v.a x.v.l.length x.v.cap, .slice x.ia x.is.length x.ic] := by rw [hkn, hxl]
  have hv2 : y.val = .agg #[.bool yl, .slice y.ka y.ks.length y.kc, .slice y.v.a y.v.l.length y.v.cap, .slice y.ia y.is.length y.ic] := by rw [hyl]
  have HV := hid hv
  have HV2 := hid hv2
  rw [hv] at HCx ⊢
  rw [hv2] at HCy ⊢
  rw [← hkn, ← hxl, ← hyl] at hw3
  rw [← hkn, ← hxl] at HB0
  rw [← hyl] at HB1
  clear hx sx hy sy hbx hby hra hrb hkn hxl hyl hv hv2
  go_enter Try.func32, Try.ntmps32
  go_upto_region 1 with fail
  rw [← hw3, ← hN0, ← hN1, ← hN2]
  clear hw3 hN0 hN1 hN2
  cases ra with
  | false =>
    have HE := hid (show N.join x.nd key y.nd = (N.nil, 22) by unfold N.join; rw [if_pos (.inl HRa.out.symm)])
    go_upto_region 2 with (first
      | (refine wpList_load_row rfl 26 _ rfl N0 rfl 26 _ _ _ HB0.out Try.underlying26 rfl (infoR4 _ _ _ _) ?_)
      | (go_at_call 16; refine (HCx.out w3 HA3.out).mono ?_; rintro e w4 ⟨rfl, hA4⟩; have H4 := hid hA4; clear hA4))
    have HB4 := hid (box_adds HB2.out H4.out)
    go_wp2_with (refine wpList_store_row rfl 26 _ _ rfl N2 #[.bool false, .slice .none 0 0, .slice .none 0 0, .slice .none 0 0] rfl rfl 26 _ HB4.out (infoR4 _ _ _ _) rfl (one4 _ _ _ _ _ _ _ _ _ _) ?_)
    refine bodyPost_ret (results_r2 rfl _ _ N2 _ rfl (setRow_heap w4 N2 _ _ 26 _ HB4.out) rfl) rfl ?_
    rw [HE.out]
    exact ⟨NM.none, rfl, pq_old rfl (NQ.nil w (fun k => Q k ∨ Q' k)) (HA3.out.trans H4.out) HNe.out.2.2 _⟩
  | true =>
  cases rb with
  | false =>
    have HE := hid (show N.join x.nd key y.nd = (N.nil, 22) by unfold N.join; rw [if_pos (.inr (.inl HRb.out.symm))])
    go_upto_region 2 with (first
      | (refine wpList_load_row rfl 26 _ rfl N0 rfl 26 _ _ _ HB0.out Try.underlying26 rfl (infoR4 _ _ _ _) ?_)
      | (refine wpList_load_g (by rfl) 26 _ rfl N1 0 rfl [.bool yl, .slice y.ka y.ks.length y.kc, .slice y.v.a y.v.l.length y.v.cap, .slice y.ia y.is.length y.ic] _ (rng_of (box_adds HB1.out H4.out)) Try.underlying26 rfl infoRN.out ?_)
      | (go_at_call 16; refine (HCy.out w4 (HA3.out.trans H4.out)).mono ?_; rintro e w5 ⟨rfl, hA5⟩; have H5 := hid hA5; clear hA5)
      | (go_at_call 16; refine (HCx.out w3 HA3.out).mono ?_; rintro e w4 ⟨rfl, hA4⟩; have H4 := hid hA4; clear hA4))
    have HB5 := hid (box_adds HB2.out (H4.out.trans H5.out))
    go_wp2_with (refine wpList_store_row rfl 26 _ _ rfl N2 #[.bool false, .slice .none 0 0, .slice .none 0 0, .slice .none 0 0] rfl rfl 26 _ HB5.out (infoR4 _ _ _ _) rfl (one4 _ _ _ _ _ _ _ _ _ _) ?_)
    refine bodyPost_ret (results_r2 rfl _ _ N2 _ rfl (setRow_heap w5 N2 _ _ 26 _ HB5.out) rfl) rfl ?_
    rw [HE.out]
    exact ⟨NM.none, rfl, pq_old rfl (NQ.nil w (fun k => Q k ∨ Q' k)) (HA3.out.trans (H4.out.trans H5.out)) HNe.out.2.2 _⟩
  | true =>
    cases xl with
    | true =>
      cases yl with
      | false =>
        have HE := hid (show N.join x.nd key y.nd = (N.nil, 22) by unfold N.join; rw [if_pos (.inr (.inr (show x.nd.leaf ≠ y.nd.leaf by rw [show x.nd.leaf = true from HXl.out.symm, show y.nd.leaf = false from HYl.out.symm]; decide)))])
        go_upto_region 2 with (first
          | (refine wpList_load_row rfl 26 _ rfl N0 rfl 26 _ _ _ HB0.out Try.underlying26 rfl (infoR4 _ _ _ _) ?_)
          | (refine wpList_load_g (by rfl) 26 _ rfl N1 0 rfl [.bool false, .slice y.ka y.ks.length y.kc, .slice y.v.a y.v.l.length y.v.cap, .slice y.ia y.is.length y.ic] _ (rng_of (box_adds HB1.out H4.out)) Try.underlying26 rfl infoRN.out ?_)
          | (go_at_call 16; refine (HCy.out w4 (HA3.out.trans H4.out)).mono ?_; rintro e w5 ⟨rfl, hA5⟩; have H5 := hid hA5; clear hA5; obtain ⟨x0, _, _, _⟩ := box_cells (box_adds HB0.out (H4.out.trans H5.out)); obtain ⟨y0, _, _, _⟩ := box_cells (box_adds HB1.out (H4.out.trans H5.out)))
          | (go_at_call 16; refine (HCx.out w3 HA3.out).mono ?_; rintro e w4 ⟨rfl, hA4⟩; have H4 := hid hA4; clear hA4))
        clear x0 y0
        have HB5 := hid (box_adds HB2.out (H4.out.trans H5.out))
        go_wp2_with (refine wpList_store_row rfl 26 _ _ rfl N2 #[.bool false, .slice .none 0 0, .slice .none 0 0, .slice .none 0 0] rfl rfl 26 _ HB5.out (infoR4 _ _ _ _) rfl (one4 _ _ _ _ _ _ _ _ _ _) ?_)
        refine bodyPost_ret (results_r2 rfl _ _ N2 _ rfl (setRow_heap w5 N2 _ _ 26 _ HB5.out) rfl) rfl ?_
        rw [HE.out]
        exact ⟨NM.none, rfl, pq_old rfl (NQ.nil w (fun k => Q k ∨ Q' k)) (HA3.out.trans (H4.out.trans H5.out)) HNe.out.2.2 _⟩
      | true =>
        obtain ⟨nd, hnd⟩ : ∃ nd, nd = N.change x.nd kn kn (N.joinB y.nd key) := ⟨_, rfl⟩
        have HE := hid (show N.join x.nd key y.nd = N.told nd by unfold N.join; rw [if_neg (fun c => c.elim (fun c => by rw [← HRa.out] at c; cases c) (fun c => c.elim (fun c => by rw [← HRb.out] at c; cases c) (fun c => c (by rw [show x.nd.leaf = true from HXl.out.symm, show y.nd.leaf = true from HYl.out.symm])))), hnd, HKn.out]; rfl)
        have HBn := hid (show N.Bd 1000 nd by rw [hnd]; exact (HBx.out.change (N.joinB_bd HBy.out HRb.out.symm HKl.out) (Nat.le_refl kn)).mono (by decide))
        go_upto_region 3 with (first
          | (refine wpList_load_row rfl 26 _ rfl N0 rfl 26 _ _ _ HB0.out Try.underlying26 rfl (infoR4 _ _ _ _) ?_)
          | (refine wpList_load_g (by rfl) 26 _ rfl N1 0 rfl [.bool true, .slice y.ka y.ks.length y.kc, .slice y.v.a y.v.l.length y.v.cap, .slice y.ia y.is.length y.ic] _ (rng_of (box_adds HB1.out H4.out)) Try.underlying26 rfl infoRN.out ?_)
          | (go_at_call 16; refine (HCy.out w4 (HA3.out.trans H4.out)).mono ?_; rintro e w5 ⟨rfl, hA5⟩; have H5 := hid hA5; clear hA5; obtain ⟨x0, _, _, _⟩ := box_cells (box_adds HB0.out (H4.out.trans H5.out)); obtain ⟨y0, _, _, _⟩ := box_cells (box_adds HB1.out (H4.out.trans H5.out)))
          | (go_at_call 16; refine (HCx.out w3 HA3.out).mono ?_; rintro e w4 ⟨rfl, hA4⟩; have H4 := hid hA4; clear hA4))
        have A6 := hid (HA3.out.trans (H4.out.trans H5.out))
        have X6 := hid (box_adds HB0.out (H4.out.trans H5.out))
        have Y6 := hid (box_adds HB1.out (H4.out.trans H5.out))
        have Z6 := hid (box_adds HB2.out (H4.out.trans H5.out))
        clear x0
        go_upto_region 5 with fail
        clear y0
        have HN2R := hid (show N2 < w3.heap.size from (Array.getElem?_eq_some_iff.1 HB2.out).1)
        have HREF := hid (show w3.heap.size ≤ w5.heap.size from (H4.out.trans H5.out).size)
        have HCh := hid (show Calls Try.prog 57 #[.agg #[.bool true, .slice x.ka kn x.kc, .slice x.v.a x.v.l.length x.v.cap, .slice x.ia x.is.length x.ic], .int .i64 (kn : Int), .int .i64 0, .agg #[.bool true, .slice y.ka y.ks.length y.kc, .slice y.v.a y.v.l.length y.v.cap, .slice y.ia y.is.length y.ic]] w5 (PQNd w5 (fun k => ((Q k ∨ Q' k) ∧ k < w.heap.size) ∨ w3.heap.size ≤ k) nd) by
          have e : N.joinB y.nd key = y.nd := by unfold N.joinB; rw [show y.nd.leaf = true from HYl.out.symm]; rfl
          rw [hnd, e, ← HV.out, ← HV2.out]
          have q := PQnode.nd (rchange_any x y kn 0 w5 ((HX.out.mono (Q' := fun k => Q k ∧ k < w.heap.size) (fun k hk hq => ⟨hq, hk⟩)).adds A6.out) HSx.out ((HY.out.mono (Q' := fun k => Q' k ∧ k < w.heap.size) (fun k hk hq => ⟨hq, hk⟩)).adds A6.out) HSy.out (by rw [HKn.out]; exact Nat.le_refl _) (right_len HRa.out.symm).1 (right_len HRa.out.symm).2)
          refine q.mono (fun e W' h => ?_)
          obtain ⟨l, ka, kc, ks, g, ia, ic, is, he, h1, h2, h3⟩ := h
          exact ⟨l, ka, kc, ks, g, ia, ic, is, he, h1, h2.mono (fun k _ hk => by
            rcases hk with hk | hk | hk
            · exact .inl ⟨.inl hk.1, hk.2⟩
            · exact .inl ⟨.inr hk.1, hk.2⟩
            · exact .inr (Nat.le_trans HREF.out hk)), h3⟩)
        clear hnd
        obtain ⟨x0, x1, _, _⟩ := box_cells X6.out
        go_wp2_with (first
          | (refine wpList_load_row rfl 26 _ rfl N0 rfl 26 _ _ _ X6.out Try.underlying26 rfl (infoR4 _ _ _ _) ?_)
          | (refine wpList_load_row rfl 26 _ rfl N1 rfl 26 _ _ _ Y6.out Try.underlying26 rfl (infoR4 _ _ _ _) ?_)
          | (go_at_call 57; refine HCh.out.mono ?_; rintro e w7 ⟨l4, ka4, kc4, ks4, g4, ia4, ic4, is4, rfl, H7⟩; have HTo := hid (PQT.nd (n := (N.told nd).1) (er := (N.told nd).2) (rtold_any ⟨l4, ka4, kc4, ks4, g4, ia4, ic4, is4⟩ w7 H7.out.2.1 (N.Bd.ns (m := 1000) (by rw [H7.out.1]; exact HBn.out) (by decide))) (by rw [H7.out.1])))
          | (go_at_call 56; refine HTo.out.mono ?_; rintro e w8 ⟨l5, ka5, kc5, ks5, g5, ia5, ic5, is5, rfl, H8⟩; have HB8 := hid (box_adds Z6.out (H7.out.2.2.trans H8.out.2.2)))
          | (refine wpList_store_row rfl 26 _ _ rfl N2 #[.bool l5, .slice ka5 ks5.length kc5, .slice g5.a g5.l.length g5.cap, .slice ia5 is5.length ic5] rfl rfl 26 _ HB8.out (infoR4 _ _ _ _) rfl (one4 _ _ _ _ _ _ _ _ _ _) ?_))
        refine bodyPost_ret (results_r2 rfl _ _ N2 _ rfl (setRow_heap w8 N2 _ _ 26 _ HB8.out) rfl) rfl ?_
        rw [HE.out]
        refine ⟨⟨l5, ka5, kc5, ks5, g5, ia5, ic5, is5⟩, rfl, pq_new (w1 := w3) H8.out.1 (H8.out.2.1.mono (fun k _ hk => ?_)) (A6.out.trans (H7.out.2.2.trans H8.out.2.2)) HNe.out.2.2 HN2R.out _⟩
        rcases hk with hk | hk
        · exact hk
        · exact .inr (Nat.le_trans (Nat.le_trans HREF.out H7.out.2.2.size) hk)
    | false =>
      cases yl with
      | true =>
        have HE := hid (show N.join x.nd key y.nd = (N.nil, 22) by unfold N.join; rw [if_pos (.inr (.inr (show x.nd.leaf ≠ y.nd.leaf by rw [show x.nd.leaf = false from HXl.out.symm, show y.nd.leaf = true from HYl.out.symm]; decide)))])
        go_upto_region 2 with (first
          | (refine wpList_load_row rfl 26 _ rfl N0 rfl 26 _ _ _ HB0.out Try.underlying26 rfl (infoR4 _ _ _ _) ?_)
          | (refine wpList_load_g (by rfl) 26 _ rfl N1 0 rfl [.bool true, .slice y.ka y.ks.length y.kc, .slice y.v.a y.v.l.length y.v.cap, .slice y.ia y.is.length y.ic] _ (rng_of (box_adds HB1.out H4.out)) Try.underlying26 rfl infoRN.out ?_)
          | (go_at_call 16; refine (HCy.out w4 (HA3.out.trans H4.out)).mono ?_; rintro e w5 ⟨rfl, hA5⟩; have H5 := hid hA5; clear hA5; obtain ⟨x0, _, _, _⟩ := box_cells (box_adds HB0.out (H4.out.trans H5.out)); obtain ⟨y0, _, _, _⟩ := box_cells (box_adds HB1.out (H4.out.trans H5.out)))
          | (go_at_call 16; refine (HCx.out w3 HA3.out).mono ?_; rintro e w4 ⟨rfl, hA4⟩; have H4 := hid hA4; clear hA4))
        clear x0 y0
        have HB5 := hid (box_adds HB2.out (H4.out.trans H5.out))
        go_wp2_with (refine wpList_store_row rfl 26 _ _ rfl N2 #[.bool false, .slice .none 0 0, .slice .none 0 0, .slice .none 0 0] rfl rfl 26 _ HB5.out (infoR4 _ _ _ _) rfl (one4 _ _ _ _ _ _ _ _ _ _) ?_)
        refine bodyPost_ret (results_r2 rfl _ _ N2 _ rfl (setRow_heap w5 N2 _ _ 26 _ HB5.out) rfl) rfl ?_
        rw [HE.out]
        exact ⟨NM.none, rfl, pq_old rfl (NQ.nil w (fun k => Q k ∨ Q' k)) (HA3.out.trans (H4.out.trans H5.out)) HNe.out.2.2 _⟩
      | false =>
        obtain ⟨nd, hnd⟩ : ∃ nd, nd = N.change x.nd kn kn (N.joinB y.nd key) := ⟨_, rfl⟩
        have HE := hid (show N.join x.nd key y.nd = N.told nd by unfold N.join; rw [if_neg (fun c => c.elim (fun c => by rw [← HRa.out] at c; cases c) (fun c => c.elim (fun c => by rw [← HRb.out] at c; cases c) (fun c => c (by rw [show x.nd.leaf = false from HXl.out.symm, show y.nd.leaf = false from HYl.out.symm])))), hnd, HKn.out]; rfl)
        have HBn := hid (show N.Bd 1000 nd by rw [hnd]; exact (HBx.out.change (N.joinB_bd HBy.out HRb.out.symm HKl.out) (Nat.le_refl kn)).mono (by decide))
        go_upto_region 3 with (first
          | (refine wpList_load_row rfl 26 _ rfl N0 rfl 26 _ _ _ HB0.out Try.underlying26 rfl (infoR4 _ _ _ _) ?_)
          | (refine wpList_load_g (by rfl) 26 _ rfl N1 0 rfl [.bool false, .slice y.ka y.ks.length y.kc, .slice y.v.a y.v.l.length y.v.cap, .slice y.ia y.is.length y.ic] _ (rng_of (box_adds HB1.out H4.out)) Try.underlying26 rfl infoRN.out ?_)
          | (go_at_call 16; refine (HCy.out w4 (HA3.out.trans H4.out)).mono ?_; rintro e w5 ⟨rfl, hA5⟩; have H5 := hid hA5; clear hA5; obtain ⟨x0, _, _, _⟩ := box_cells (box_adds HB0.out (H4.out.trans H5.out)); obtain ⟨y0, _, _, _⟩ := box_cells (box_adds HB1.out (H4.out.trans H5.out)))
          | (go_at_call 16; refine (HCx.out w3 HA3.out).mono ?_; rintro e w4 ⟨rfl, hA4⟩; have H4 := hid hA4; clear hA4))
        have A5 := hid (HA3.out.trans (H4.out.trans H5.out))
        have X5 := hid (box_adds HB0.out (H4.out.trans H5.out))
        have Y5 := hid (box_adds HB1.out (H4.out.trans H5.out))
        have Z5 := hid (box_adds HB2.out (H4.out.trans H5.out))
        clear x0
        go_upto_region 4 with fail
        clear y0
        obtain ⟨yn, hyn⟩ : ∃ n, n = y.ks.length := ⟨_, rfl⟩
        have hy0 : 1 ≤ yn := by
          rcases (right_parts HRb.out.symm).2 with ⟨q0, _⟩ | ⟨q0, q1, q2, q3, q4, q5⟩
          · rw [show y.nd.leaf = false from HYl.out.symm] at q0; cases q0
          · rw [hyn]; exact q4
        have hyn9 : yn ≤ 1000 := by rw [hyn]; exact HSy.out.k
        have HYn := hid hyn
        obtain ⟨W2, hW2⟩ : ∃ W, W = w5.alloc (.cells #[.string ⟨key.toArray⟩] 9) := ⟨_, rfl⟩
        obtain ⟨g2, hg2⟩ : ∃ g, g = w5.heap.size := ⟨_, rfl⟩
        have HL2 := hid (show W2.ownsRow w5.heap.size 9 1 (.slice (some ⟨g2, 0, none⟩) 1 1) 1 [.string ⟨key.toArray⟩] by
          rw [hW2, hg2]; exact World.ownsRow_lit (base := w5.heap.size) (e := 9) (size := 1) w5 #[.string ⟨key.toArray⟩] 1 (Nat.le_refl _) (by decide) rfl)
        have HA22 := hid (show Adds w5 W2 by rw [hW2]; exact (Touch.refl _ w5).alloc _)
        obtain ⟨_, p1, _, _⟩ := box_cells (box_adds Y5.out HA22.out)
        obtain ⟨i9, hi9, hz9, hs9, hb9⟩ := infoES
        have HInf := hid (And.intro hi9 (And.intro hz9 (And.intro hs9 hb9)))
        have HCq := hid (show CQ W2 Q' (sufA y.ka y.kc 1) ((Ss y.ks).drop 1) from sufCQ (HY.out.keys.adds (A5.out.trans HA22.out)) y.kc 1 (by rw [len_Ss]; exact HY.out.kr))
        have HNon := hid (show sufA y.ka y.kc 1 = none → y.kc - 1 = 0 from fun e => sufA_none HY.out.kn e)
        have hs2 : (Instr.sliceAt 22 (.slice y.ka yn y.kc) (some (.int .i64 1)) none none).run Try.prog W2 = .ok (.slice (sufA y.ka y.kc 1) (yn - 1) (y.kc - 1)) W2 := run_sufVS y.ka yn y.kc 1 hy0 W2
        obtain ⟨sa, hsa⟩ : ∃ s, s = sufA y.ka y.kc 1 := ⟨_, rfl⟩
        rw [← hsa] at hs2 HCq HNon
        rw [hW2] at p1 hs2
        rw [← hyn] at p1
        clear hi9 hz9 hs9 hb9 hsa hyn
        go_upto_region 5 with (refine wpList_plain rfl (fun K hK => ?_); rw [← hW2, ← hg2]; clear hW2 hg2; refine wp_append_list (w0 := w5) 22 9 i9 (.string ⟨#[]⟩) 16 Try.underlying22 HInf.out.1 HInf.out.2.1 HInf.out.2.2.1 HInf.out.2.2.2 rfl (.tmp 28) (.tmp 31) rfl w5.heap.size (.slice (some ⟨g2, 0, none⟩) 1 1) 1 [.string ⟨key.toArray⟩] rfl HL2.out HA22.out rfl sa (yn - 1) (y.kc - 1) ((Ss y.ks).drop 1) rfl (by rw [List.length_drop, len_Ss, HYn.out]) HCq.out HNon.out (fun u hu => one_Ss y.ks u (List.mem_of_mem_drop hu)) (by omega) (by unfold maxLen; omega) ?_; intro a7 c7 w6 r4 hA4; have R4 := hid r4; have A4 := hid hA4; clear r4 hA4; have HY6 := hid (box_adds Y5.out A4.out); obtain ⟨z0, z1, z2, z3⟩ := box_cells HY6.out; have zf := box_free HY6.out 1; refine hK _ _ ?_)
        have HY6 := hid (box_adds Y5.out A4.out)
        have R4' := R4.out
        rw [show 1 + (yn - 1) = yn by omega, show [Value.string ⟨key.toArray⟩] ++ (Ss y.ks).drop 1 = Ss (key :: y.ks.tail) by rw [List.drop_one, Ss, Ss, List.map_cons, List.map_tail]; rfl] at R4'
        have H6 := hid (And.intro R4' A4.out)
        obtain ⟨w9, hw9⟩ : ∃ w9, w9 = w6.setCell ⟨N1, 1, none⟩ (.slice a7 yn c7) := ⟨_, rfl⟩
        have hT9 : Touch (fun j => j = N1) w6 w9 := by rw [hw9]; exact Touch.setCell (T := fun j => j = N1) (Touch.refl _ w6) (p := ⟨N1, 1, none⟩) (fun _ => rfl) _
        have HN1L := hid (show w.heap.size ≤ N1 by have := HNe0.out; omega)
        have A6 := hid (show Adds w w9 from (A5.out.trans A4.out).then hT9 (fun j hj e => by have := HN1L.out; omega))
        have X6 := hid (show w9.heap[N0]? = some (.cells #[.bool false, .slice x.ka kn x.kc, .slice x.v.a x.v.l.length x.v.cap, .slice x.ia x.is.length x.ic] 26) by have q := box_adds X5.out A4.out; rw [hT9.block N0 (Array.getElem?_eq_some_iff.1 q).1 HNe.out.1]; exact q)
        have Z6 := hid (show w9.heap[N2]? = some RZ by have q := box_adds Z5.out A4.out; rw [hT9.block N2 (Array.getElem?_eq_some_iff.1 q).1 HNe.out.2.1]; exact q)
        have Y6 := hid (show w9.heap[N1]? = some (.cells #[.bool false, .slice a7 yn c7, .slice y.v.a y.v.l.length y.v.cap, .slice y.ia y.is.length y.ic] 26) by rw [hw9, heap_setCell_same w6 N1 1 _ 26 _ HY6.out]; rfl)
        have HN2R := hid (show N2 < w5.heap.size from (Array.getElem?_eq_some_iff.1 Z5.out).1)
        have HREF := hid (show w5.heap.size ≤ w9.heap.size from Nat.le_trans A4.out.size hT9.size)
        have HJ := hid (show NQ w9 (fun k => (Q' k ∧ k < w.heap.size) ∨ w5.heap.size ≤ k) ⟨false, a7, c7, key :: y.ks.tail, y.v, y.ia, y.ic, y.is⟩ by
          have K5 := row_q (row_touch H6.out.1 hT9 (fun j hj c => row_ne H6.out.1 HY6.out (by decide) hj c))
          rw [show yn = (key :: y.ks.tail).length by have hyn := HYn.out; rw [List.length_cons, List.length_tail]; omega] at K5
          have q := (HY.out.mono (Q' := fun k => Q' k ∧ k < w.heap.size) (fun k hk hq => ⟨hq, hk⟩)).adds A6.out
          exact ⟨K5.2.2.mono (fun k _ hk => .inr hk), K5.2.1, K5.1, q.vals.mono (fun _ _ hk => .inl hk), q.vr, q.kids.mono (fun _ _ hk => .inl hk), q.inn, q.ir⟩)
        rw [← hw9]
        clear hw9 hT9
        have HCh := hid (show Calls Try.prog 57 #[.agg #[.bool false, .slice x.ka kn x.kc, .slice x.v.a x.v.l.length x.v.cap, .slice x.ia x.is.length x.ic], .int .i64 (kn : Int), .int .i64 0, .agg #[.bool false, .slice a7 yn c7, .slice y.v.a y.v.l.length y.v.cap, .slice y.ia y.is.length y.ic]] w9 (PQNd w9 (fun k => ((Q k ∨ Q' k) ∧ k < w.heap.size) ∨ w5.heap.size ≤ k) nd) by
          have e : N.joinB y.nd key = NM.nd ⟨false, a7, c7, key :: y.ks.tail, y.v, y.ia, y.ic, y.is⟩ := by unfold N.joinB; rw [show y.nd.leaf = false from HYl.out.symm]; rfl
          have el : yn = (key :: y.ks.tail).length := by have hyn := HYn.out; rw [List.length_cons, List.length_tail]; omega
          have hsy : NS ⟨false, a7, c7, key :: y.ks.tail, y.v, y.ia, y.ic, y.is⟩ := N.Bd.ns (m := 400) (by rw [← e]; exact N.joinB_bd HBy.out HRb.out.symm HKl.out) (by decide)
          rw [hnd, e, ← HV.out, el]
          have q := PQnode.nd (rchange_any x ⟨false, a7, c7, key :: y.ks.tail, y.v, y.ia, y.ic, y.is⟩ kn 0 w9 ((HX.out.mono (Q' := fun k => Q k ∧ k < w.heap.size) (fun k hk hq => ⟨hq, hk⟩)).adds A6.out) HSx.out HJ.out hsy (by rw [HKn.out]; exact Nat.le_refl _) (right_len HRa.out.symm).1 (right_len HRa.out.symm).2)
          refine q.mono (fun e W' h => ?_)
          obtain ⟨l, ka, kc, ks, g, ia, ic, is, he, h1, h2, h3⟩ := h
          exact ⟨l, ka, kc, ks, g, ia, ic, is, he, h1, h2.mono (fun k _ hk => by
            rcases hk with hk | hk | hk
            · exact .inl ⟨.inl hk.1, hk.2⟩
            · rcases hk with hk | hk
              · exact .inl ⟨.inr hk.1, hk.2⟩
              · exact .inr hk
            · exact .inr (Nat.le_trans HREF.out hk)), h3⟩)
        clear hnd
        obtain ⟨x0, x1, _, _⟩ := box_cells X6.out
        go_wp2_with (first
          | (refine wpList_load_row rfl 26 _ rfl N0 rfl 26 _ _ _ X6.out Try.underlying26 rfl (infoR4 _ _ _ _) ?_)
          | (refine wpList_load_row rfl 26 _ rfl N1 rfl 26 _ _ _ Y6.out Try.underlying26 rfl (infoR4 _ _ _ _) ?_)
          | (go_at_call 57; refine HCh.out.mono ?_; rintro e w7 ⟨l4, ka4, kc4, ks4, g4, ia4, ic4, is4, rfl, H7⟩; have HTo := hid (PQT.nd (n := (N.told nd).1) (er := (N.told nd).2) (rtold_any ⟨l4, ka4, kc4, ks4, g4, ia4, ic4, is4⟩ w7 H7.out.2.1 (N.Bd.ns (m := 1000) (by rw [H7.out.1]; exact HBn.out) (by decide))) (by rw [H7.out.1])))
          | (go_at_call 56; refine HTo.out.mono ?_; rintro e w8 ⟨l5, ka5, kc5, ks5, g5, ia5, ic5, is5, rfl, H8⟩; have HB8 := hid (box_adds Z6.out (H7.out.2.2.trans H8.out.2.2)))
          | (refine wpList_store_row rfl 26 _ _ rfl N2 #[.bool l5, .slice ka5 ks5.length kc5, .slice g5.a g5.l.length g5.cap, .slice ia5 is5.length ic5] rfl rfl 26 _ HB8.out (infoR4 _ _ _ _) rfl (one4 _ _ _ _ _ _ _ _ _ _) ?_))
        refine bodyPost_ret (results_r2 rfl _ _ N2 _ rfl (setRow_heap w8 N2 _ _ 26 _ HB8.out) rfl) rfl ?_
        rw [HE.out]
        refine ⟨⟨l5, ka5, kc5, ks5, g5, ia5, ic5, is5⟩, rfl, pq_new (w1 := w5) H8.out.1 (H8.out.2.1.mono (fun k _ hk => ?_)) (A6.out.trans (H7.out.2.2.trans H8.out.2.2)) HNe.out.2.2 HN2R.out _⟩
        rcases hk with hk | hk
        · exact hk
        · exact .inr (Nat.le_trans (Nat.le_trans HREF.out H7.out.2.2.size) hk)
end Go.Proofs.Ytplppnngmlljnaa

/- A node that is cut: both parts may be, are joined again, and fit. -/
namespace Go.Proofs.Ytplppnngmlljnaa
open Go.RowKit
namespace N
theorem taken_app : ∀ a b : List (List UInt8), M.taken (a ++ b) = M.taken a + M.taken b
  | [], b => by rw [List.nil_append]; show _ = 0 + _; omega
  | c :: a, b => by rw [List.cons_append, taken_cons, taken_cons, taken_app a b]; omega
theorem taken_cut (l : List (List UInt8)) (k : Nat) : M.taken l = M.taken (l.take k) + M.taken (l.drop k) := by rw [← taken_app, List.take_append_drop]
theorem mid_val (l : List (List UInt8)) : ∀ k, (mid l k).2 = unlike l (mid l k).1
  | 0 => by
    show M.taken l = (2 * (M.taken (l.take 0) : Int) - M.taken l).natAbs
    rw [List.take_zero, show M.taken [] = 0 from rfl]
    omega
  | k + 1 => by
    by_cases h : unlike l k < (mid l k).2
    · rw [mid_yes h]
    · rw [mid_no h]; exact mid_val l k
theorem mid_least (l : List (List UInt8)) : ∀ k j, j < k → (mid l k).2 ≤ unlike l j
  | 0, j, hj => absurd hj (Nat.not_lt_zero j)
  | k + 1, j, hj => by
    by_cases h : unlike l k < (mid l k).2
    · rw [mid_yes h]
      by_cases e : j = k
      · subst e; exact Nat.le_refl _
      · have := mid_least l k j (by omega)
        show unlike l k ≤ _
        omega
    · rw [mid_no h]
      by_cases e : j = k
      · subst e; omega
      · exact mid_least l k j (by omega)
theorem mid_less (l : List (List UInt8)) : ∀ k, 0 < k → (mid l k).1 < k
  | 0, h => absurd h (Nat.not_lt_zero 0)
  | k + 1, _ => by
    by_cases h : unlike l k < (mid l k).2
    · rw [mid_yes h]; exact Nat.lt_succ_self k
    · rw [mid_no h]
      exact Nat.lt_succ_of_le (mid_lt l k)
theorem taken_pos {l : List (List UInt8)} (h : 0 < l.length) : 2 ≤ M.taken l := by
  cases l with
  | nil => cases h
  | cons c l => rw [taken_cons]; omega
theorem mid_pos {l : List (List UInt8)} {k : Nat} (hk : 2 ≤ k) (hl : 2 ≤ l.length) : 0 < (mid l k).1 := by
  rcases Nat.eq_zero_or_pos (mid l k).1 with c | c
  · have h1 := mid_val l k
    have h2 := mid_least l k 1 (by omega)
    have h3 := taken_cut l 1
    have h4 : 2 ≤ M.taken (l.take 1) := taken_pos (by rw [List.length_take]; omega)
    have h5 : 2 ≤ M.taken (l.drop 1) := taken_pos (by rw [List.length_drop]; omega)
    rw [c] at h1
    unfold unlike at h1 h2
    rw [List.take_zero, show M.taken [] = 0 from rfl] at h1
    omega
  · exact c
/-- The parts, written out. -/
def partA (n : Nd) (m : Nat) : Nd := ⟨n.leaf, n.keys.take m, n.vals.take m, n.kids.take m⟩
theorem without_a {n : Nd} (h : right n = true) {m : Nat} (h0 : 0 < m) (hm : m < n.keys.length) : without n m n.keys.length = partA n m := by
  rcases (right_parts h).2 with ⟨q0, q1, q2, q3⟩ | ⟨q0, q1, q2, q3, q4, q5⟩
  · obtain ⟨l, ks, vs, zs⟩ := n
    have e3 : zs = [] := List.eq_nil_of_length_eq_zero q2
    have e0 : l = true := q0
    have e1 : vs.length = ks.length := q1
    subst e0 e3
    unfold without first change partA
    rw [if_neg (fun c => by cases c.1)]
    show (⟨true, ks.take m ++ ([] ++ ks.drop ks.length), vs.take m ++ ([] ++ vs.drop ks.length), []⟩ : Nd) = ⟨true, ks.take m, vs.take m, [].take m⟩
    rw [List.drop_length, ← e1, List.drop_length, List.take_nil, List.append_nil, List.append_nil, List.append_nil]
  · obtain ⟨l, ks, vs, zs⟩ := n
    have e3 : vs = [] := List.eq_nil_of_length_eq_zero q2
    have e0 : l = false := q0
    have e1 : zs.length = ks.length := q1
    subst e0 e3
    unfold without
    have ec : change ⟨false, ks, [], zs⟩ m ks.length nil = ⟨false, ks.take m, [], zs.take m⟩ := by
      show (⟨false, ks.take m ++ ([] ++ ks.drop ks.length), [], zs.take m ++ ([] ++ zs.drop ks.length)⟩ : Nd) = _
      rw [List.drop_length, ← e1, List.drop_length]
      simp only [List.append_nil]
    show first (change ⟨false, ks, [], zs⟩ m ks.length nil) = _
    rw [ec]
    unfold partA first
    have hm' : m < ks.length := hm
    rw [if_pos ⟨rfl, by show 0 < (ks.take m).length; rw [List.length_take]; omega⟩]
    cases ks with
    | nil => cases q4
    | cons k t =>
      have hk : k = [] := q5
      obtain ⟨m, rfl⟩ : ∃ i, m = i + 1 := ⟨m - 1, by omega⟩
      rw [hk]; simp
theorem middle_in {n : Nd} (h2 : 2 ≤ n.keys.length) : 0 < middle n ∧ middle n < n.keys.length := by
  unfold middle
  exact ⟨mid_pos h2 (by rw [len_cells]; exact h2), mid_less _ _ (by omega)⟩
end N
end Go.Proofs.Ytplppnngmlljnaa

/- The reference: a node cut in two. -/
namespace Go.Proofs.Ytplppnngmlljnaa
open Go.RowKit

theorem results_r3 {fn : Func} {p q u : Tmp} (h : fn.results = #[.cell p 26, .cell q 26, .tmp u]) (tmps : Array Value) (w : World) (g g' : Nat) (cs cs' : Array Value) (hp : tmps.getD p undef = .pointer (some ⟨g, 0, .none⟩)) (hq : tmps.getD q undef = .pointer (some ⟨g', 0, .none⟩))
    (hg : w.heap[g]? = some (.cells cs 26 (0, 0))) (hs : cs.size = 4) (hg' : w.heap[g']? = some (.cells cs' 26 (0, 0))) (hs' : cs'.size = 4) :
    (results fn tmps).run Try.prog w = .ok (.tuple #[.agg cs, .agg cs', tmps.getD u undef]) w := by
  have hp' : tmps[p]?.getD undef = .pointer (some ⟨g, 0, none⟩) := by simpa using hp
  have hq' : tmps[q]?.getD undef = .pointer (some ⟨g', 0, none⟩) := by simpa using hq
  simp [results, h, hp', hq', asAddr, load_r w g cs hg hs, load_r w g' cs' hg' hs']
theorem ropen3 (w : World) (bx : Array Value) : ∃ N0 N1 N2 w3, N0 = w.heap.size ∧ N1 = N0 + 1 ∧ N2 = N1 + 1 ∧ w3 = ((w.alloc (.cells bx 26)).alloc RZ).alloc RZ ∧ Hid (Adds w w3) ∧ Hid (w3.heap[N0]? = some (.cells bx 26)) ∧ Hid (w3.heap[N1]? = some RZ) ∧ Hid (w3.heap[N2]? = some RZ) ∧ Hid (w.heap.size ≤ N1) := by
  obtain ⟨N0, N1, w2, h0, h1, hw2, HA, HB0, HB1, HL⟩ := ropen2 w bx
  have hz : w2.heap.size = N1 + 1 := by rw [hw2, h1, h0]; simp
  refine ⟨N0, N1, N1 + 1, w2.alloc RZ, h0, h1, rfl, by rw [hw2], HA.out.alloc _, box_adds HB0.out ((Touch.refl _ _).alloc _), box_adds HB1.out ((Touch.refl _ _).alloc _), ?_, HL⟩
  rw [← hz]
  exact heap_alloc_new _ _
/-- What a cut tells; memory may be shared. -/
def PQCut (w : World) (Q : Nat → Prop) (A B : N.Nd) (er : Nat) (e : Ending) (w' : World) : Prop := ∃ zA zB : NM, e = .returned (.tuple #[zA.val, zB.val, .int .i64 (er : Int)]) ∧ Hid ((zA.nd = A ∧ NQ w' Q zA) ∧ (zB.nd = B ∧ NQ w' Q zB) ∧ Adds w w')
/-- Two results stored. -/
theorem pq_two {w w1 w5 : World} {N1 N2 : Nat} {z : NM} {cs1 cs2 a1 a2 : Array Value} {Q : Nat → Prop} (h : NQ w5 (fun k => (Q k ∧ k < w.heap.size) ∨ w1.heap.size ≤ k) z) (h1 : w5.heap[N1]? = some (.cells cs1 26 (0, 0))) (h2 : w5.heap[N2]? = some (.cells cs2 26 (0, 0))) (hne : N1 ≠ N2) (hA : Adds w w5) (hL : w.heap.size ≤ N1) (hL2 : w.heap.size ≤ N2) (hr : N1 < w1.heap.size) (hr2 : N2 < w1.heap.size) :
    NQ ((w5.setRow N1 a1).setRow N2 a2) (fun k => Q k ∨ w.heap.size ≤ k) z ∧ ((w5.setRow N1 a1).setRow N2 a2).heap[N1]? = some (.cells a1 26 (0, 0)) ∧ ((w5.setRow N1 a1).setRow N2 a2).heap[N2]? = some (.cells a2 26 (0, 0)) ∧ Adds w ((w5.setRow N1 a1).setRow N2 a2) ∧ (w5.setRow N1 a1).heap[N2]? = some (.cells cs2 26 (0, 0)) := by
  have t1 := touch_row w5 N1 a1
  have t2 := touch_row (w5.setRow N1 a1) N2 a2
  have b2 : (w5.setRow N1 a1).heap[N2]? = some (.cells cs2 26 (0, 0)) := by
    rw [t1.block N2 (Array.getElem?_eq_some_iff.1 h2).1 (fun c => hne c.symm)]; exact h2
  have b1 := setRow_heap w5 N1 _ a1 26 _ h1
  have no : ∀ k, ((Q k ∧ k < w.heap.size) ∨ w1.heap.size ≤ k) → k ≠ N1 ∧ k ≠ N2 := fun k hk => by
    rcases hk with hk | hk
    · have := hk.2; omega
    · omega
  refine ⟨((h.touch t1 (fun k hk c => (no k hk).1 c)).touch t2 (fun k hk c => (no k hk).2 c)).mono (fun k _ hk => ?_), ?_, setRow_heap _ N2 _ a2 26 _ b2, (hA.then t1 (fun j hj e => by omega)).then t2 (fun j hj e => by omega), b2⟩
  · rcases hk with hk | hk
    · exact .inl hk.1
    · exact .inr (by omega)
  · rw [t2.block N1 (Array.getElem?_eq_some_iff.1 b1).1 hne]; exact b1
theorem change_a {n : N.Nd} (h : N.right n = true) {m : Nat} : N.change n m n.keys.length N.nil = N.partA n m := by
  rcases (right_parts h).2 with ⟨q0, q1, q2, q3⟩ | ⟨q0, q1, q2, q3, q4, q5⟩
  · obtain ⟨l, ks, vs, zs⟩ := n
    have e3 : zs = [] := List.eq_nil_of_length_eq_zero q2
    have e0 : l = true := q0
    have e1 : vs.length = ks.length := q1
    subst e0 e3
    show (⟨true, ks.take m ++ ([] ++ ks.drop ks.length), vs.take m ++ ([] ++ vs.drop ks.length), []⟩ : N.Nd) = ⟨true, ks.take m, vs.take m, [].take m⟩
    rw [List.drop_length, ← e1, List.drop_length, List.take_nil, List.append_nil, List.append_nil, List.append_nil]
  · obtain ⟨l, ks, vs, zs⟩ := n
    have e3 : vs = [] := List.eq_nil_of_length_eq_zero q2
    have e0 : l = false := q0
    have e1 : zs.length = ks.length := q1
    subst e0 e3
    show (⟨false, ks.take m ++ ([] ++ ks.drop ks.length), [], zs.take m ++ ([] ++ zs.drop ks.length)⟩ : N.Nd) = ⟨false, ks.take m, [].take m, zs.take m⟩
    rw [List.drop_length, ← e1, List.drop_length, List.take_nil]
    simp only [List.append_nil]
/-- The places of a cut, as the reference seeks them. -/
theorem unlike_is (l : List (List UInt8)) (i : Nat) : ((M.taken (l.take i) : Int) - (M.taken (l.drop i) : Int)).natAbs = N.unlike l i := by
  have q := N.taken_cut l i
  unfold N.unlike
  omega
theorem mid_two {l : List (List UInt8)} (hl : 2 ≤ l.length) : N.mid l 2 = (1, N.unlike l 1) := by
  have h3 := N.taken_cut l 1
  have h4 : 2 ≤ M.taken (l.take 1) := N.taken_pos (by rw [List.length_take]; omega)
  have h5 : 2 ≤ M.taken (l.drop 1) := N.taken_pos (by rw [List.length_drop]; omega)
  have e0 : N.mid l 1 = (0, M.taken l) := by
    rw [show (1 : Nat) = 0 + 1 from rfl, N.mid_no]
    · rfl
    · show ¬ N.unlike l 0 < M.taken l
      unfold N.unlike
      rw [List.take_zero, show M.taken [] = 0 from rfl]
      omega
  rw [show (2 : Nat) = 1 + 1 from rfl]
  refine N.mid_yes ?_
  rw [e0]
  show N.unlike l 1 < M.taken l
  unfold N.unlike
  omega
theorem pboxed {w6 w7 : World} {N6 : Nat} {cs : Array Value} (hN : N6 = w6.heap.size) (hw : w7 = (w6.alloc RZ).setRow N6 cs) : w7.heap[N6]? = some (.cells cs 26 (0, 0)) ∧ Adds w6 w7 :=
  ⟨by rw [hw, hN]; exact setRow_heap _ _ _ _ 26 _ (heap_alloc_new w6 RZ), by rw [hw, hN]; exact Touch.setRow (T := fun _ => False) ((Touch.refl _ _).alloc _) (fun c => absurd c (by omega)) _⟩
set_option maxRecDepth 100000 in
set_option maxHeartbeats 16000000 in
theorem rcut_any (x : NM) (w : World) {Q : Nat → Prop} (hx : NQ w Q x) (hb : N.Bd 400 x.nd) : Calls Try.prog 30 #[x.val] w (PQCut w (fun k => Q k ∨ w.heap.size ≤ k) (N.cutA x.nd) (N.cutB x.nd) (N.cutE x.nd)) := by
  have sx := (hb.mono (m' := 900) (by decide)).ns (by decide)
  obtain ⟨N0, N1, N2, w2, hN0, hN1, hN2, hw2, HA2, HB0, HB1, HB2, HL⟩ := ropen3 w #[.bool x.leaf, .slice x.ka x.ks.length x.kc, .slice x.v.a x.v.l.length x.v.cap, .slice x.ia x.is.length x.ic]
  have HNe := hid (show N1 ≠ N2 by omega)
  have HL2 := hid (show w.heap.size ≤ N2 by have := HL.out; omega)
  have HR12 := hid (show N1 < w2.heap.size ∧ N2 < w2.heap.size from ⟨(Array.getElem?_eq_some_iff.1 HB1.out).1, (Array.getElem?_eq_some_iff.1 HB2.out).1⟩)
  obtain ⟨r, hr⟩ : ∃ r, r = N.right x.nd := ⟨_, rfl⟩
  have HC := hid (show Calls Try.prog 16 #[x.val] w2 (Adding (.bool r) w2) by rw [hr]; exact rright_any x w2 (hx.adds HA2.out) sx)
  have HR := hid hr
  have HX := hid hx
  have HSx := hid sx
  have HBd := hid hb
  obtain ⟨kn, hkn⟩ : ∃ kn, kn = x.ks.length := ⟨_, rfl⟩
  have hk9 : kn ≤ 400 := by rw [hkn]; exact hb.k
  have HKn := hid hkn
  have hv : x.val = .agg #[.bool x.leaf, .slice x.ka kn x.kc, .slice x.v.a x.v.l.length x.v.cap, .slice x.ia x.is.length x.ic] := by rw [hkn]
  have HV := hid hv
  rw [hv] at HC ⊢
  rw [← hkn] at hw2 HB0
  clear hx sx hb hr hkn hv
  go_enter Try.func30, Try.ntmps30
  go_upto_region 1 with fail
  rw [← hw2, ← hN0, ← hN1, ← hN2]
  clear hw2 hN0 hN1 hN2
  obtain ⟨c0, c1, c2, c3⟩ := box_cells HB0.out
  have HNil := hid (fun (w3 : World) (hA : Adds w w3) (h1 : w3.heap[N1]? = some RZ) (h2 : w3.heap[N2]? = some RZ) => pq_two (w1 := w2) (Q := Q) (a1 := #[.bool false, .slice .none 0 0, .slice .none 0 0, .slice .none 0 0]) (a2 := #[.bool false, .slice .none 0 0, .slice .none 0 0, .slice .none 0 0]) (NQ.nil w3 _) h1 h2 HNe.out hA HL.out HL2.out HR12.out.1 HR12.out.2)
  cases r with
  | false =>
    have hE : N.cutE x.nd = 22 := by unfold N.cutE; rw [← HR.out]; rfl
    have HE := hid (show N.cutE x.nd = 22 ∧ N.cutA x.nd = N.nil ∧ N.cutB x.nd = N.nil from ⟨hE, by unfold N.cutA; rw [if_neg (by rw [hE]; decide)], by unfold N.cutB; rw [if_neg (by rw [hE]; decide)]⟩)
    clear hE
    go_upto_region 2 with (go_at_call 16; refine HC.out.mono ?_; rintro e w3 ⟨rfl, hA3⟩; have H3 := hid hA3; clear hA3)
    clear c0 c1 c2 c3
    have HB3 := hid (box_adds HB1.out H3.out)
    have HB4 := hid (box_adds HB2.out H3.out)
    have HT := hid (HNil.out w3 (HA2.out.trans H3.out) HB3.out HB4.out)
    go_wp2_with (first
      | (refine wpList_store_row rfl 26 _ _ rfl N1 #[.bool false, .slice .none 0 0, .slice .none 0 0, .slice .none 0 0] rfl rfl 26 _ HB3.out (infoR4 _ _ _ _) rfl (one4 _ _ _ _ _ _ _ _ _ _) ?_)
      | (refine wpList_store_row rfl 26 _ _ rfl N2 #[.bool false, .slice .none 0 0, .slice .none 0 0, .slice .none 0 0] rfl rfl 26 _ HT.out.2.2.2.2 (infoR4 _ _ _ _) rfl (one4 _ _ _ _ _ _ _ _ _ _) ?_))
    refine bodyPost_ret (results_r3 rfl _ _ N1 N2 _ _ rfl rfl HT.out.2.1 rfl HT.out.2.2.1 rfl) rfl ?_
    rw [HE.out.1, HE.out.2.1, HE.out.2.2]
    exact ⟨NM.none, NM.none, rfl, ⟨rfl, HT.out.1⟩, ⟨rfl, HT.out.1⟩, HT.out.2.2.2.1⟩
  | true =>
    by_cases h2 : kn < 2
    · have h2z : (kn : Int) < 2 := by omega
      have hE : N.cutE x.nd = 40 := by unfold N.cutE; rw [← HR.out, if_neg (by decide), if_pos (by rw [show x.nd.keys.length = kn from HKn.out.symm]; exact h2)]
      have HE := hid (show N.cutE x.nd = 40 ∧ N.cutA x.nd = N.nil ∧ N.cutB x.nd = N.nil from ⟨hE, by unfold N.cutA; rw [if_neg (by rw [hE]; decide)], by unfold N.cutB; rw [if_neg (by rw [hE]; decide)]⟩)
      clear hE h2
      go_upto_region 4 with (go_at_call 16; refine HC.out.mono ?_; rintro e w3 ⟨rfl, hA3⟩; have H3 := hid hA3; obtain ⟨q0, q1, q2, q3⟩ := box_cells (box_adds HB0.out hA3); clear hA3)
      clear c0 c1 c2 c3
      have HB3 := hid (box_adds HB1.out H3.out)
      have HB4 := hid (box_adds HB2.out H3.out)
      have HT := hid (HNil.out w3 (HA2.out.trans H3.out) HB3.out HB4.out)
      go_wp2_with (first
        | (refine wpList_store_row rfl 26 _ _ rfl N1 #[.bool false, .slice .none 0 0, .slice .none 0 0, .slice .none 0 0] rfl rfl 26 _ HB3.out (infoR4 _ _ _ _) rfl (one4 _ _ _ _ _ _ _ _ _ _) ?_)
        | (refine wpList_store_row rfl 26 _ _ rfl N2 #[.bool false, .slice .none 0 0, .slice .none 0 0, .slice .none 0 0] rfl rfl 26 _ HT.out.2.2.2.2 (infoR4 _ _ _ _) rfl (one4 _ _ _ _ _ _ _ _ _ _) ?_))
      refine bodyPost_ret (results_r3 rfl _ _ N1 N2 _ _ rfl rfl HT.out.2.1 rfl HT.out.2.2.1 rfl) rfl ?_
      rw [HE.out.1, HE.out.2.1, HE.out.2.2]
      exact ⟨NM.none, NM.none, rfl, ⟨rfl, HT.out.1⟩, ⟨rfl, HT.out.1⟩, HT.out.2.2.2.1⟩
    · have h2z : ¬ (kn : Int) < 2 := by omega
      have h2g : 2 ≤ kn := by omega
      have hE : N.cutE x.nd = 0 := by unfold N.cutE; rw [← HR.out, if_neg (by decide), if_neg (by rw [show x.nd.keys.length = kn from HKn.out.symm]; exact h2)]
      obtain ⟨cs, hcs⟩ : ∃ cs, cs = N.cells x.nd := ⟨_, rfl⟩
      have hcn : cs.length = kn := by rw [hcs, len_cells, HKn.out]; rfl
      have HCc := hid (fun w' (hA : Adds w w') => show Calls Try.prog 37 #[.agg #[.bool x.leaf, .slice x.ka kn x.kc, .slice x.v.a x.v.l.length x.v.cap, .slice x.ia x.is.length x.ic]] w' (fun e w2 => ∃ ca cc, ∃ hs : List Part, e = .returned (.slice ca kn cc) ∧ Hid (hs.map (·.bs) = cs ∧ GQ w2 (fun k => w'.heap.size ≤ k) ⟨ca, cc, hs⟩ ∧ Adds w' w2 ∧ kn ≤ cc)) by
        rw [← HV.out, ← hcn, hcs]; exact rcells_any x w' (HX.out.adds hA) HSx.out HR.out.symm)
      have HTk := hid (show M.taken cs ≤ 93 * kn by have q := ntaken_le cs (by rw [hcs]; exact cells_all HR.out.symm); rw [hcn] at q; exact q)
      have HMid := hid (show N.middle x.nd = (N.mid cs kn).1 ∧ cs.length = kn by unfold N.middle; rw [← hcs, show x.nd.keys.length = kn from HKn.out.symm]; exact ⟨rfl, hcn⟩)
      have HE := hid hE
      clear hE h2 hcs hcn
      go_upto_region 8 with (first
        | (refine wpList_load_row rfl 26 _ rfl N0 rfl 26 _ _ _ (box_adds HB0.out H3.out) Try.underlying26 rfl (infoR4 _ _ _ _) ?_)
        | (go_at_call 37; refine (HCc.out w3 (HA2.out.trans H3.out)).mono ?_; rintro e w4 ⟨ca, cc, hs, rfl, H4⟩)
        | (go_at_call 16; refine HC.out.mono ?_; rintro e w3 ⟨rfl, hA3⟩; have H3 := hid hA3; obtain ⟨q0, q1, q2, q3⟩ := box_cells (box_adds HB0.out hA3); clear hA3))
      clear c0 c1 c2 c3 HC HCc
      have A4 := hid (HA2.out.trans (H3.out.trans H4.out.2.2.1))
      have X4 := hid (box_adds HB0.out (H3.out.trans H4.out.2.2.1))
      have HLh := hid (show hs.length = kn by rw [← HMid.out.2, ← H4.out.1, List.length_map])
      go_upto_region 9 with fail
      go_loopw [5, 6, 8] (fun b a t wx => ∃ (i at_ : Nat) (best : Int), 1 ≤ i ∧ i ≤ kn ∧ at_ ≤ kn ∧ best ≤ 93 * 400 ∧ -1 ≤ best ∧ t = .int .i64 (i : Int) ∧ a = .int .i64 (at_ : Int) ∧ b = .int .i64 best ∧ Hid (Adds w4 wx ∧ (i = 1 → best = -1) ∧ (2 ≤ i → N.mid cs i = (at_, best.toNat) ∧ 0 ≤ best))) (fun _ _ t _ => kn - (intOf t).toNat)
      case atStart => exact ⟨1, 0, -1, Nat.le_refl _, by omega, Nat.zero_le _, by omega, by omega, rfl, rfl, rfl, Touch.refl _ _, fun _ => rfl, fun h => absurd h (by decide)⟩
      case round =>
        obtain ⟨i, at_, best, hi1, hi, hat, hb9, hb0, rfl, rfl, rfl, HI⟩ := hrel
        obtain ⟨_, x1, _, _⟩ := box_cells (box_adds X4.out HI.out.1)
        by_cases hlt : i < kn
        · have hlz : (i : Int) < (kn : Int) := by omega
          obtain ⟨s, hs_⟩ : ∃ s, s = M.taken (cs.take i) := ⟨_, rfl⟩
          obtain ⟨dd, hdd⟩ : ∃ s, s = M.taken (cs.drop i) := ⟨_, rfl⟩
          obtain ⟨u, hu⟩ : ∃ u, u = N.unlike cs i := ⟨_, rfl⟩
          have hsum : s + dd = M.taken cs := by rw [hs_, hdd]; exact (N.taken_cut cs i).symm
          have hs9 : s ≤ 37200 := by have := HTk.out; omega
          have hd9 : dd ≤ 37200 := by have := HTk.out; omega
          have hud : u = ((s : Int) - (dd : Int)).natAbs := by rw [hu, hs_, hdd]; exact (unlike_is cs i).symm
          have hu9 : u ≤ 37200 := by omega
          have HG := hid (H4.out.2.1.adds HI.out.1)
          have HT1 := hid (fun w' (hA : Adds wr w') => show Calls Try.prog 43 #[.slice ca i cc] w' (Tells (.int .i64 (s : Int)) w') from rtaken_any ca (hs.take i) i cc (by rw [List.length_take, HLh.out]; omega) w' ((HG.out.adds hA).pre i) s (by rw [hs_, List.map_take, H4.out.1]) (by omega))
          have HT2 := hid (fun w' (hA : Adds wr w') => show Calls Try.prog 43 #[.slice (sufAt ca cc i) (kn - i) (cc - i)] w' (Tells (.int .i64 (dd : Int)) w') from rtaken_any (sufAt ca cc i) (hs.drop i) (kn - i) (cc - i) (by rw [List.length_drop, HLh.out]) w' ((HG.out.adds hA).suf i (by rw [HLh.out]; exact H4.out.2.2.2)) dd (by rw [hdd, List.map_drop, H4.out.1]) (by omega))
          have HU := hid (show u = N.unlike cs i from hu)
          have HCc9 := hid H4.out.2.2.2
          obtain ⟨du, hdu⟩ : ∃ z : Int, z = (s : Int) - (dd : Int) := ⟨_, rfl⟩
          have HDu := hid (show du = (s : Int) - (dd : Int) ∧ u = du.natAbs from ⟨hdu, by rw [hdu]; exact hud⟩)
          clear hs_ hdd hu hsum hdu hud
          go_upto_region 11 with fail
          clear x1
          refine Pe_begin (S := fun W : World => Adds wr W) (X := 10) (by kernel_rfl) ?_
          have hS : (fun W : World => Adds wr W) wr.drew := adds_dr wr
          refine Pe_put (i := 0) 32 (v := .slice ca kn cc) rfl rfl (by kernel_rfl) (by kernel_rfl) (by kernel_rfl) (by kernel_rfl) (fun _ _ _ h => h) (Or.inl ⟨by rfl, fun w' hw' => ?_⟩) hS ?_
          · go_simp
          simp only [Act.put, List.setIfInBounds_toArray, List.set_cons_zero, List.set_cons_succ]
          refine Pe_put (i := 1) 33 (v := .int .i64 (i : Int)) rfl rfl (by kernel_rfl) (by kernel_rfl) (by kernel_rfl) (by kernel_rfl) (fun _ _ _ h => h) (Or.inl ⟨by rfl, fun w' hw' => ?_⟩) hS ?_
          · go_simp
          simp only [Act.put, List.setIfInBounds_toArray, List.set_cons_zero, List.set_cons_succ]
          refine Pe_put (i := 2) 34 (v := .slice ca i cc) rfl rfl (by kernel_rfl) (by kernel_rfl) (by kernel_rfl) (by kernel_rfl) (fun _ _ _ h => h) (Or.inl ⟨by rfl, fun w' hw' => ?_⟩) hS ?_
          · (have hs1 := run_preB ca kn cc i (by have := HCc9.out; omega) w'; clear hw'; go_simp)
          simp only [Act.put, List.setIfInBounds_toArray, List.set_cons_zero, List.set_cons_succ]
          refine Pe_put (i := 4) 36 (v := .slice ca kn cc) rfl rfl (by kernel_rfl) (by kernel_rfl) (by kernel_rfl) (by kernel_rfl) (fun _ _ _ h => h) (Or.inl ⟨by rfl, fun w' hw' => ?_⟩) hS ?_
          · go_simp
          simp only [Act.put, List.setIfInBounds_toArray, List.set_cons_zero, List.set_cons_succ]
          refine Pe_put (i := 5) 37 (v := .int .i64 (i : Int)) rfl rfl (by kernel_rfl) (by kernel_rfl) (by kernel_rfl) (by kernel_rfl) (fun _ _ _ h => h) (Or.inl ⟨by rfl, fun w' hw' => ?_⟩) hS ?_
          · go_simp
          simp only [Act.put, List.setIfInBounds_toArray, List.set_cons_zero, List.set_cons_succ]
          refine Pe_put (i := 6) 38 (v := .slice (sufAt ca cc i) (kn - i) (cc - i)) rfl rfl (by kernel_rfl) (by kernel_rfl) (by kernel_rfl) (by kernel_rfl) (fun _ _ _ h => h) (Or.inl ⟨by rfl, fun w' hw' => ?_⟩) hS ?_
          · (have hs1 := run_sufB ca kn cc i (by omega) w'; clear hw'; go_simp)
          simp only [Act.put, List.setIfInBounds_toArray, List.set_cons_zero, List.set_cons_succ]
          refine Pe_call (i := 3) 35 43 #[.slice ca i cc] (by kernel_rfl) rfl rfl (by rfl) (by go_simp) (HT1.out _ hS) ?_
          rintro e wy ⟨rfl, hwy⟩
          rw [hwy]
          clear hwy
          refine ⟨_, rfl, fun _ => hS, ?_⟩
          simp only [Act.put, List.setIfInBounds_toArray, List.set_cons_zero, List.set_cons_succ]
          refine Pe_call (i := 7) 39 43 #[.slice (sufAt ca cc i) (kn - i) (cc - i)] (by kernel_rfl) rfl rfl (by rfl) (by go_simp) (HT2.out _ hS) ?_
          rintro e wy ⟨rfl, hwy⟩
          rw [hwy]
          clear hwy
          refine ⟨_, rfl, fun _ => hS, ?_⟩
          simp only [Act.put, List.setIfInBounds_toArray, List.set_cons_zero, List.set_cons_succ]
          refine Pe_put (i := 8) 40 (v := .int .i64 du) rfl rfl (by kernel_rfl) (by kernel_rfl) (by kernel_rfl) (by kernel_rfl) (fun _ _ _ h => h) (Or.inl ⟨by rfl, fun w' hw' => ?_⟩) hS ?_
          · (have hwr : IntKind.i64.wrap ((s : Int) - (dd : Int)) = du := by rw [IntKind.wrap_i64, HDu.out.1]; omega); go_simp
          simp only [Act.put, List.setIfInBounds_toArray, List.set_cons_zero, List.set_cons_succ]
          refine Pe_put (i := 9) 9 (v := .int .i64 du) rfl rfl (by kernel_rfl) (by kernel_rfl) (by kernel_rfl) (by kernel_rfl) (fun _ _ _ h => h) (Or.inl ⟨by rfl, fun w' hw' => ?_⟩) hS ?_
          · go_simp
          simp only [Act.put, List.setIfInBounds_toArray, List.set_cons_zero, List.set_cons_succ]
          refine Pe_done (by kernel_rfl) ?_ _
          have HS := hid hS
          clear hS
          by_cases hneg : du < 0
          · have hnd : decide (du < 0) = true := decide_eq_true hneg
            have hw1 : IntKind.i64.wrap (-du) = (u : Int) := by rw [IntKind.wrap_i64]; have := HDu.out; omega
            go_upto_region 14 with fail
            clear hw1 hnd hneg
            by_cases h1 : i = 1
            · obtain rfl : best = -1 := HI.out.2.1 h1
              have H1 := hid h1
              clear h1
              go_wp2_with fail
              go_roundw
              case rel =>
                have q := mid_two (l := cs) (by rw [HMid.out.2]; exact h2g)
                refine ⟨i + 1, i, u, by omega, by omega, by omega, by omega, by omega, by go_num, rfl, rfl, HI.out.1.trans HS.out, fun h => absurd h (by have := H1.out; omega), fun _ => ⟨?_, by omega⟩⟩
                rw [HU.out, H1.out]
                exact q
              case measure => simp [intOf]; omega
            · have h2i : 2 ≤ i := by omega
              obtain ⟨hm, hb⟩ := HI.out.2.2 h2i
              obtain ⟨bn, rfl⟩ : ∃ n : Nat, best = (n : Int) := ⟨best.toNat, by omega⟩
              rw [Int.toNat_natCast] at hm
              have HM := hid hm
              have hbz : ¬ (bn : Int) < 0 := by omega
              have hbd : decide ((bn : Int) < 0) = false := decide_eq_false hbz
              clear hm h1
              by_cases hub : u < bn
              · have hubz : (u : Int) < (bn : Int) := by omega
                have hubd : decide ((u : Int) < (bn : Int)) = true := decide_eq_true hubz
                have hubn : decide (u < bn) = true := decide_eq_true hub
                go_wp2_with fail
                go_roundw
                case rel =>
                  refine ⟨i + 1, i, u, by omega, by omega, by omega, by omega, by omega, by go_num, rfl, rfl, HI.out.1.trans HS.out, fun h => absurd h (by omega), fun _ => ⟨?_, by omega⟩⟩
                  rw [N.mid_yes (by rw [HM.out, ← HU.out]; exact hub), HU.out]; rfl
                case measure => simp [intOf]; omega
              · have hubz : ¬ (u : Int) < (bn : Int) := by omega
                have hubd : decide ((u : Int) < (bn : Int)) = false := decide_eq_false hubz
                have hubn : decide (u < bn) = false := decide_eq_false hub
                go_wp2_with fail
                go_roundw
                case rel =>
                  refine ⟨i + 1, at_, bn, by omega, by omega, by omega, by omega, by omega, by go_num, rfl, rfl, HI.out.1.trans HS.out, fun h => absurd h (by omega), fun _ => ⟨?_, by omega⟩⟩
                  rw [N.mid_no (by rw [HM.out, ← HU.out]; exact hub), HM.out]; rfl
                case measure => simp [intOf]; omega
          · have hnd : decide (du < 0) = false := decide_eq_false hneg
            obtain rfl : du = (u : Int) := by have := HDu.out; omega
            go_upto_region 14 with fail
            clear hnd hneg
            by_cases h1 : i = 1
            · obtain rfl : best = -1 := HI.out.2.1 h1
              have H1 := hid h1
              clear h1
              go_wp2_with fail
              go_roundw
              case rel =>
                have q := mid_two (l := cs) (by rw [HMid.out.2]; exact h2g)
                refine ⟨i + 1, i, u, by omega, by omega, by omega, by omega, by omega, by go_num, rfl, rfl, HI.out.1.trans HS.out, fun h => absurd h (by have := H1.out; omega), fun _ => ⟨?_, by omega⟩⟩
                rw [HU.out, H1.out]
                exact q
              case measure => simp [intOf]; omega
            · have h2i : 2 ≤ i := by omega
              obtain ⟨hm, hb⟩ := HI.out.2.2 h2i
              obtain ⟨bn, rfl⟩ : ∃ n : Nat, best = (n : Int) := ⟨best.toNat, by omega⟩
              rw [Int.toNat_natCast] at hm
              have HM := hid hm
              have hbz : ¬ (bn : Int) < 0 := by omega
              have hbd : decide ((bn : Int) < 0) = false := decide_eq_false hbz
              clear hm h1
              by_cases hub : u < bn
              · have hubz : (u : Int) < (bn : Int) := by omega
                have hubd : decide ((u : Int) < (bn : Int)) = true := decide_eq_true hubz
                have hubn : decide (u < bn) = true := decide_eq_true hub
                go_wp2_with fail
                go_roundw
                case rel =>
                  refine ⟨i + 1, i, u, by omega, by omega, by omega, by omega, by omega, by go_num, rfl, rfl, HI.out.1.trans HS.out, fun h => absurd h (by omega), fun _ => ⟨?_, by omega⟩⟩
                  rw [N.mid_yes (by rw [HM.out, ← HU.out]; exact hub), HU.out]; rfl
                case measure => simp [intOf]; omega
              · have hubz : ¬ (u : Int) < (bn : Int) := by omega
                have hubd : decide ((u : Int) < (bn : Int)) = false := decide_eq_false hubz
                have hubn : decide (u < bn) = false := decide_eq_false hub
                go_wp2_with fail
                go_roundw
                case rel =>
                  refine ⟨i + 1, at_, bn, by omega, by omega, by omega, by omega, by omega, by go_num, rfl, rfl, HI.out.1.trans HS.out, fun h => absurd h (by omega), fun _ => ⟨?_, by omega⟩⟩
                  rw [N.mid_no (by rw [HM.out, ← HU.out]; exact hub), HM.out]; rfl
                case measure => simp [intOf]; omega
        · obtain rfl : i = kn := by omega
          have hlz : ¬ (i : Int) < (i : Int) := by omega
          obtain ⟨hm, _⟩ := HI.out.2.2 h2g
          have hmid : N.middle x.nd = at_ := by rw [HMid.out.1, hm]
          have hk2 : 2 ≤ x.nd.keys.length := by show 2 ≤ x.ks.length; rw [← HKn.out]; exact h2g
          obtain ⟨m0, m1⟩ := N.middle_in (n := x.nd) hk2
          rw [hmid] at m0 m1
          have hml : at_ < i := by rw [HKn.out]; exact m1
          obtain ⟨rest, hrest⟩ : ∃ r, r = i - at_ := ⟨_, rfl⟩
          have hrz : (i : Int) - (at_ : Int) = (rest : Int) := by omega
          have hwr : IntKind.i64.wrap ((i : Int) - (at_ : Int)) = (rest : Int) := by rw [IntKind.wrap_i64]; omega
          have hrn : IntKind.i64.wrap (rest : Int) = (rest : Int) := by rw [IntKind.wrap_i64]; omega
          obtain ⟨ndA, hndA⟩ : ∃ n, n = N.change x.nd at_ i N.nil := ⟨_, rfl⟩
          obtain ⟨ndC, hndC⟩ : ∃ n, n = N.change x.nd 0 at_ N.nil := ⟨_, rfl⟩
          obtain ⟨ndB, hndB⟩ : ∃ n, n = N.first ndC := ⟨_, rfl⟩
          have HE2 := hid (show N.cutE x.nd = 0 ∧ N.cutA x.nd = ndA ∧ N.cutB x.nd = ndB by
            refine ⟨HE.out, ?_, ?_⟩
            · unfold N.cutA
              rw [if_pos HE.out, hmid, N.without_a HR.out.symm m0 m1, hndA, ← change_a HR.out.symm, show x.nd.keys.length = i from HKn.out.symm]
            · unfold N.cutB
              rw [if_pos HE.out, hmid, hndB, hndC]; rfl)
          have HXX := hid (HX.out.mono (Q' := fun k => Q k ∧ k < w.heap.size) (fun k hk hq => ⟨hq, hk⟩))
          have HChA := hid (fun (w3 : World) (hA : Adds w w3) (h23 : w2.heap.size ≤ w3.heap.size) => show Calls Try.prog 57 #[.agg #[.bool x.leaf, .slice x.ka i x.kc, .slice x.v.a x.v.l.length x.v.cap, .slice x.ia x.is.length x.ic], .int .i64 (at_ : Int), .int .i64 (rest : Int), .agg #[.bool false, .slice none 0 0, .slice none 0 0, .slice none 0 0]] w3 (PQNd w3 (fun k => (Q k ∧ k < w.heap.size) ∨ w2.heap.size ≤ k) ndA) by
            have q := PQnode.nd (rchange_any x NM.none at_ rest w3 (HXX.out.adds hA) HSx.out (NQ.nil w3 (fun _ => False)) NS.none (by rw [← HKn.out]; omega) (right_len HR.out.symm).1 (right_len HR.out.symm).2)
            rw [show at_ + rest = i by omega] at q
            rw [hndA, ← HV.out]
            refine q.mono (fun e W' h => ?_)
            obtain ⟨l, ka, kc, ks, g, ia, ic, is, he, h1, h2, h3⟩ := h
            exact ⟨l, ka, kc, ks, g, ia, ic, is, he, h1, h2.mono (fun k _ hk => hk.elim .inl (fun hk => hk.elim False.elim (fun hk => .inr (Nat.le_trans h23 hk)))), h3⟩)
          have HChC := hid (fun (w3 : World) (hA : Adds w w3) (h23 : w2.heap.size ≤ w3.heap.size) => show Calls Try.prog 57 #[.agg #[.bool x.leaf, .slice x.ka i x.kc, .slice x.v.a x.v.l.length x.v.cap, .slice x.ia x.is.length x.ic], .int .i64 0, .int .i64 (at_ : Int), .agg #[.bool false, .slice none 0 0, .slice none 0 0, .slice none 0 0]] w3 (PQNd w3 (fun k => (Q k ∧ k < w.heap.size) ∨ w2.heap.size ≤ k) ndC) by
            have q := PQnode.nd (rchange_any x NM.none 0 at_ w3 (HXX.out.adds hA) HSx.out (NQ.nil w3 (fun _ => False)) NS.none (by rw [← HKn.out]; omega) (right_len HR.out.symm).1 (right_len HR.out.symm).2)
            rw [Nat.zero_add] at q
            rw [hndC, ← HV.out]
            refine q.mono (fun e W' h => ?_)
            obtain ⟨l, ka, kc, ks, g, ia, ic, is, he, h1, h2, h3⟩ := h
            exact ⟨l, ka, kc, ks, g, ia, ic, is, he, h1, h2.mono (fun k _ hk => hk.elim .inl (fun hk => hk.elim False.elim (fun hk => .inr (Nat.le_trans h23 hk)))), h3⟩)
          have HBc := hid (show N.Bd 1000 ndC by rw [hndC]; exact (HBd.out.change N.Bd.nil (Nat.zero_le at_)).mono (by decide))
          have HNdB := hid hndB
          have Ar := hid (A4.out.trans HI.out.1)
          have Xr := hid (box_adds X4.out HI.out.1)
          have S2r := hid (show w2.heap.size ≤ wr.heap.size from ((H3.out.trans H4.out.2.2.1).trans HI.out.1).size)
          have HChAr := hid (HChA.out wr Ar.out S2r.out)
          clear hm hmid m0 m1 hndA hndC hndB hlt hrest
          go_upto_region 18 with (first
            | (refine wpList_load_row rfl 26 _ rfl N0 rfl 26 _ _ _ Xr.out Try.underlying26 rfl (infoR4 _ _ _ _) ?_)
            | (go_at_call 57; refine HChAr.out.mono ?_; rintro e w6 ⟨lA, kaA, kcA, ksA, gA, iaA, icA, isA, rfl, H6⟩)
            | (refine wpList_store_row rfl 26 _ _ rfl w6.heap.size #[.bool lA, .slice kaA ksA.length kcA, .slice gA.a gA.l.length gA.cap, .slice iaA isA.length icA] rfl rfl 26 _ (heap_alloc_new w6 RZ) (infoR4 _ _ _ _) rfl (one4 _ _ _ _ _ _ _ _ _ _) ?_))
          clear x1 hwr hrn hrz HChAr
          obtain ⟨N10, hN10⟩ : ∃ N, N = w6.heap.size := ⟨_, rfl⟩
          obtain ⟨w7, hw7⟩ : ∃ W, W = (w6.alloc RZ).setRow N10 #[.bool lA, .slice kaA ksA.length kcA, .slice gA.a gA.l.length gA.cap, .slice iaA isA.length icA] := ⟨_, rfl⟩
          have HP7 := hid (pboxed hN10 hw7)
          have HLO := hid (show wr.heap.size ≤ N10 by rw [hN10]; exact H6.out.2.2.size)
          rw [← hN10, ← hw7]
          clear hN10 hw7
          have A67 := hid (H6.out.2.2.trans HP7.out.2)
          have X7 := hid (box_adds Xr.out A67.out)
          have HChC7 := hid (HChC.out w7 (Ar.out.trans A67.out) (Nat.le_trans S2r.out A67.out.size))
          go_upto_region 19 with (first
            | (refine wpList_load_row rfl 26 _ rfl N0 rfl 26 _ _ _ X7.out Try.underlying26 rfl (infoR4 _ _ _ _) ?_)
            | (go_at_call 57; refine HChC7.out.mono ?_; rintro e w8 ⟨lC, kaC, kcC, ksC, gC, iaC, icC, isC, rfl, H8⟩)
            | (refine wpList_store_row rfl 26 _ _ rfl w8.heap.size #[.bool lC, .slice kaC ksC.length kcC, .slice gC.a gC.l.length gC.cap, .slice iaC isC.length icC] rfl rfl 26 _ (heap_alloc_new w8 RZ) (infoR4 _ _ _ _) rfl (one4 _ _ _ _ _ _ _ _ _ _) ?_))
          clear HChC7
          obtain ⟨N11, hN11⟩ : ∃ N, N = w8.heap.size := ⟨_, rfl⟩
          obtain ⟨w9, hw9⟩ : ∃ W, W = (w8.alloc RZ).setRow N11 #[.bool lC, .slice kaC ksC.length kcC, .slice gC.a gC.l.length gC.cap, .slice iaC isC.length icC] := ⟨_, rfl⟩
          have HP9 := hid (pboxed hN11 hw9)
          rw [← hN11, ← hw9]
          have HNN := hid (show N10 ≠ N1 ∧ N11 ≠ N1 ∧ N10 ≠ N2 ∧ N11 ≠ N2 by
            have h1 := HR12.out
            have h2 := (Array.getElem?_eq_some_iff.1 HP7.out.1).1
            have h3 := S2r.out
            have h4 := H6.out.2.2.size
            have h5 := H8.out.2.2.size
            have h6 := HP7.out.2.size
            have h7 := HLO.out
            omega)
          clear hN11 hw9
          have A89 := hid (H8.out.2.2.trans HP9.out.2)
          have A9 := hid ((Ar.out.trans A67.out).trans A89.out)
          have B10 := hid (box_adds HP7.out.1 A89.out)
          have Y9 := hid (box_adds HB1.out ((H3.out.trans H4.out.2.2.1).trans (HI.out.1.trans (A67.out.trans A89.out))))
          have Z9 := hid (box_adds HB2.out ((H3.out.trans H4.out.2.2.1).trans (HI.out.1.trans (A67.out.trans A89.out))))
          have HFi := hid (fun (W : World) (hA : Adds w9 W) => show Calls Try.prog 59 #[.agg #[.bool lC, .slice kaC ksC.length kcC, .slice gC.a gC.l.length gC.cap, .slice iaC isC.length icC]] W (PQNd W (fun k => ((Q k ∧ k < w.heap.size) ∨ w2.heap.size ≤ k) ∨ W.heap.size ≤ k) ndB) by
            have q := PQnode.nd (rfirst_any ⟨lC, kaC, kcC, ksC, gC, iaC, icC, isC⟩ W ((H8.out.2.1.adds HP9.out.2).adds hA) (N.Bd.ns (m := 1000) (by rw [H8.out.1]; exact HBc.out) (by decide)))
            rw [H8.out.1, ← HNdB.out] at q
            exact q)
          refine Pe_begin (S := fun W : World => Adds w W ∧ (W.heap[N10]? = some (.cells #[.bool lA, .slice kaA ksA.length kcA, .slice gA.a gA.l.length gA.cap, .slice iaA isA.length icA] 26 (0, 0)) ∧ W.heap[N11]? = some (.cells #[.bool lC, .slice kaC ksC.length kcC, .slice gC.a gC.l.length gC.cap, .slice iaC isC.length icC] 26 (0, 0)))) (X := 6) (by kernel_rfl) ?_
          have hS : (fun W : World => Adds w W ∧ (W.heap[N10]? = some (.cells #[.bool lA, .slice kaA ksA.length kcA, .slice gA.a gA.l.length gA.cap, .slice iaA isA.length icA] 26 (0, 0)) ∧ W.heap[N11]? = some (.cells #[.bool lC, .slice kaC ksC.length kcC, .slice gC.a gC.l.length gC.cap, .slice iaC isC.length icC] 26 (0, 0)))) w9.drew := ⟨A9.out.trans (adds_dr w9), box_adds B10.out (adds_dr w9), box_adds HP9.out.1 (adds_dr w9)⟩
          refine Pe_put (i := 0) 67 (v := .agg #[.bool lA, .slice kaA ksA.length kcA, .slice gA.a gA.l.length gA.cap, .slice iaA isA.length icA]) rfl rfl (by kernel_rfl) (by kernel_rfl) (by kernel_rfl) (by kernel_rfl) (fun _ _ _ h => h) (Or.inl ⟨by rfl, fun w' hw' => ?_⟩) hS ?_
          · (obtain ⟨c0, c1, c2, c3⟩ := box_cells hw'.2.1; clear hw'; go_simp)
          simp only [Act.put, List.setIfInBounds_toArray, List.set_cons_zero, List.set_cons_succ]
          refine Pe_put (i := 1) 68 (v := .agg #[.bool lC, .slice kaC ksC.length kcC, .slice gC.a gC.l.length gC.cap, .slice iaC isC.length icC]) rfl rfl (by kernel_rfl) (by kernel_rfl) (by kernel_rfl) (by kernel_rfl) (fun _ _ _ h => h) (Or.inl ⟨by rfl, fun w' hw' => ?_⟩) hS ?_
          · (obtain ⟨c0, c1, c2, c3⟩ := box_cells hw'.2.2; clear hw'; go_simp)
          simp only [Act.put, List.setIfInBounds_toArray, List.set_cons_zero, List.set_cons_succ]
          refine Pe_call (i := 2) 69 59 #[.agg #[.bool lC, .slice kaC ksC.length kcC, .slice gC.a gC.l.length gC.cap, .slice iaC isC.length icC]] (by kernel_rfl) rfl rfl (by rfl) (by go_simp) (HFi.out _ (adds_dr w9)) ?_
          rintro e w10 ⟨lB, kaB, kcB, ksB, gB, iaB, icB, isB, rfl, H10⟩
          have hS2 : (fun W : World => Adds w W ∧ (W.heap[N10]? = some (.cells #[.bool lA, .slice kaA ksA.length kcA, .slice gA.a gA.l.length gA.cap, .slice iaA isA.length icA] 26 (0, 0)) ∧ W.heap[N11]? = some (.cells #[.bool lC, .slice kaC ksC.length kcC, .slice gC.a gC.l.length gC.cap, .slice iaC isC.length icC] 26 (0, 0)))) w10 := ⟨hS.1.trans H10.out.2.2, box_adds hS.2.1 H10.out.2.2, box_adds hS.2.2 H10.out.2.2⟩
          refine ⟨_, rfl, fun _ => hS2, ?_⟩
          clear hS; have hS := hS2; clear hS2
          simp only [Act.put, List.setIfInBounds_toArray, List.set_cons_zero, List.set_cons_succ]
          have A910 := hid ((adds_dr w9).trans H10.out.2.2)
          have Y10 := hid (box_adds Y9.out A910.out)
          have Z10 := hid (box_adds Z9.out A910.out)
          have HQA := hid (show NQ w10 (fun k => (Q k ∧ k < w.heap.size) ∨ w2.heap.size ≤ k) ⟨lA, kaA, kcA, ksA, gA, iaA, icA, isA⟩ from (H6.out.2.1.adds HP7.out.2).adds (A89.out.trans A910.out))
          have HQB := hid (show NQ w10 (fun k => (Q k ∧ k < w.heap.size) ∨ w2.heap.size ≤ k) ⟨lB, kaB, kcB, ksB, gB, iaB, icB, isB⟩ from H10.out.2.1.mono (fun k _ hk => hk.elim id (fun hk => .inr (Nat.le_trans (Nat.le_trans S2r.out (A67.out.trans (A89.out.trans (adds_dr w9))).size) hk))))
          have HTA := hid (pq_two (a1 := #[.bool lA, .slice kaA ksA.length kcA, .slice gA.a gA.l.length gA.cap, .slice iaA isA.length icA]) (a2 := #[.bool lB, .slice kaB ksB.length kcB, .slice gB.a gB.l.length gB.cap, .slice iaB isB.length icB]) HQA.out Y10.out Z10.out HNe.out hS.1 HL.out HL2.out HR12.out.1 HR12.out.2)
          have HT := hid (pq_two (a1 := #[.bool lA, .slice kaA ksA.length kcA, .slice gA.a gA.l.length gA.cap, .slice iaA isA.length icA]) (a2 := #[.bool lB, .slice kaB ksB.length kcB, .slice gB.a gB.l.length gB.cap, .slice iaB isB.length icB]) HQB.out Y10.out Z10.out HNe.out hS.1 HL.out HL2.out HR12.out.1 HR12.out.2)
          have hn := HNN.out
          refine Pe_do (i := 3) none (by kernel_rfl) rfl rfl rfl (fun K' hK => ?_)
          refine Go.wp_store_row 26 _ _ rfl N1 #[.bool lA, .slice kaA ksA.length kcA, .slice gA.a gA.l.length gA.cap, .slice iaA isA.length icA] rfl rfl 26 _ Y10.out (infoR4 _ _ _ _) rfl (one4 _ _ _ _ _ _ _ _ _ _) ?_
          have hS2 : (fun W : World => Adds w W ∧ (W.heap[N10]? = some (.cells #[.bool lA, .slice kaA ksA.length kcA, .slice gA.a gA.l.length gA.cap, .slice iaA isA.length icA] 26 (0, 0)) ∧ W.heap[N11]? = some (.cells #[.bool lC, .slice kaC ksC.length kcC, .slice gC.a gC.l.length gC.cap, .slice iaC isC.length icC] 26 (0, 0)))) (w10.setRow N1 #[.bool lA, .slice kaA ksA.length kcA, .slice gA.a gA.l.length gA.cap, .slice iaA isA.length icA]) := ⟨(st_keep (And.intro hS.1 hS.2.1) hn.1 HL.out).1, (st_keep (And.intro hS.1 hS.2.1) hn.1 HL.out).2, (st_keep (And.intro hS.1 hS.2.2) hn.2.1 HL.out).2⟩
          refine hK _ _ (fun _ => hS2) ?_
          simp only [Act.put]
          clear hS; have hS := hS2; clear hS2
          refine Pe_do (i := 4) none (by kernel_rfl) rfl rfl rfl (fun K' hK => ?_)
          refine Go.wp_store_row 26 _ _ rfl N2 #[.bool lB, .slice kaB ksB.length kcB, .slice gB.a gB.l.length gB.cap, .slice iaB isB.length icB] rfl rfl 26 _ HT.out.2.2.2.2 (infoR4 _ _ _ _) rfl (one4 _ _ _ _ _ _ _ _ _ _) ?_
          have hS2 : (fun W : World => Adds w W ∧ (W.heap[N10]? = some (.cells #[.bool lA, .slice kaA ksA.length kcA, .slice gA.a gA.l.length gA.cap, .slice iaA isA.length icA] 26 (0, 0)) ∧ W.heap[N11]? = some (.cells #[.bool lC, .slice kaC ksC.length kcC, .slice gC.a gC.l.length gC.cap, .slice iaC isC.length icC] 26 (0, 0)))) ((w10.setRow N1 #[.bool lA, .slice kaA ksA.length kcA, .slice gA.a gA.l.length gA.cap, .slice iaA isA.length icA]).setRow N2 #[.bool lB, .slice kaB ksB.length kcB, .slice gB.a gB.l.length gB.cap, .slice iaB isB.length icB]) := ⟨(st_keep (And.intro hS.1 hS.2.1) hn.2.2.1 HL2.out).1, (st_keep (And.intro hS.1 hS.2.1) hn.2.2.1 HL2.out).2, (st_keep (And.intro hS.1 hS.2.2) hn.2.2.2 HL2.out).2⟩
          refine hK _ _ (fun _ => hS2) ?_
          simp only [Act.put]
          clear hS; have hS := hS2; clear hS2
          refine Pe_put (i := 5) 4 (v := .int .i64 0) rfl rfl (by kernel_rfl) (by kernel_rfl) (by kernel_rfl) (by kernel_rfl) (fun _ _ _ h => h) (Or.inl ⟨by rfl, fun w' hw' => ?_⟩) hS ?_
          · go_simp
          simp only [Act.put, List.setIfInBounds_toArray, List.set_cons_zero, List.set_cons_succ]
          refine Pe_done (by kernel_rfl) ?_ _
          clear hS
          go_wp2_with fail
          refine bodyPost_ret (results_r3 rfl _ _ N1 N2 _ _ rfl rfl HT.out.2.1 rfl HT.out.2.2.1 rfl) rfl ?_
          rw [HE2.out.1, HE2.out.2.1, HE2.out.2.2]
          exact ⟨⟨lA, kaA, kcA, ksA, gA, iaA, icA, isA⟩, ⟨lB, kaB, kcB, ksB, gB, iaB, icB, isB⟩, rfl, ⟨H6.out.1, HTA.out.1⟩, ⟨H10.out.1, HT.out.1⟩, HT.out.2.2.2.1⟩
end Go.Proofs.Ytplppnngmlljnaa

/- A node's memory is changed: its places stay. -/
namespace Go.Proofs.Ytplppnngmlljnaa
open Go.RowKit

theorem set_typed {w : World} {g k b : Nat} {v : Value} {t : TypeId} (hb : ∃ cs fr, w.heap[b]? = some (Obj.cells cs t fr)) : ∃ cs fr, (w.setCell ⟨g, k, none⟩ v).heap[b]? = some (Obj.cells cs t fr) := by
  obtain ⟨cs, fr, hb⟩ := hb
  by_cases e : b = g
  · subst e
    rw [setCell_eq_setRow w b k cs t fr v hb]
    exact ⟨_, _, setRow_heap w b cs _ t fr hb⟩
  · rw [heap_setCell_other w ⟨g, k, none⟩ b v e]
    exact ⟨cs, fr, hb⟩
theorem PT.byte {w : World} {B : Nat} {p : Part} (h : PT w B p) (g k : Nat) (d : UInt8) : ∃ bs', bs'.length = p.bs.length ∧ PT (w.setCell ⟨g, k, none⟩ (B8 d)) B ⟨p.a, bs', p.cap⟩ := by
  by_cases hx : ∃ j0 o, j0 < p.bs.length ∧ p.a = some ⟨g, o, none⟩ ∧ o + j0 = k
  · obtain ⟨j0, o, hj0, ea, ek⟩ := hx
    refine ⟨p.bs.set j0 d, by rw [List.length_set], ⟨⟨fun j u hj => ?_, h.q.non⟩, fun j hj b' o' e => ?_⟩⟩
    · have hlt : j < p.bs.length := by
        have := (List.getElem?_eq_some_iff.1 hj).1
        simpa [S] using this
      obtain ⟨b1, o1, e1, hq, hc⟩ := h.q.at_ j (B8 (p.bs[j]'hlt)) (by rw [S_get, List.getElem?_eq_getElem hlt]; rfl)
      rw [ea] at e1
      injection e1 with e2
      injection e2 with e3 e4 _
      subst e3 e4
      refine ⟨g, o, ea, ⟨hq.1, set_typed hq.2⟩, ?_⟩
      by_cases ej : j = j0
      · subst ej
        rw [S_get, List.getElem?_set_self hlt] at hj
        obtain rfl : B8 d = u := Option.some.inj hj
        subst ek
        exact World.cell?_setCell_same w _ _ hc
      · rw [S_get, List.getElem?_set_ne (fun c => ej c.symm), ← S_get] at hj
        rw [S_get, List.getElem?_eq_getElem hlt] at hj
        obtain rfl : B8 (p.bs[j]'hlt) = u := Option.some.inj hj
        rw [World.cell?_setCell_other w _ _ _ (fun c => by injection c with _ c2 _; omega)]
        exact hc
    · rw [World.frozen?_setCell]
      exact h.fz j (by rw [List.length_set] at hj; exact hj) b' o' e
  · refine ⟨p.bs, rfl, ⟨⟨fun j u hj => ?_, h.q.non⟩, fun j hj b' o' e => ?_⟩⟩
    · obtain ⟨b1, o1, e1, hq, hc⟩ := h.q.at_ j u hj
      have hlt : j < p.bs.length := by
        have := (List.getElem?_eq_some_iff.1 hj).1
        simpa [S] using this
      refine ⟨b1, o1, e1, ⟨hq.1, set_typed hq.2⟩, ?_⟩
      rw [World.cell?_setCell_other w _ _ _ (fun c => hx (by injection c with c1 c2 _; subst c1; exact ⟨j, o1, hlt, e1, c2.symm⟩))]
      exact hc
    · rw [World.frozen?_setCell]
      exact h.fz j hj b' o' e
theorem parts_byte {w : World} {B : Nat} (g k : Nat) (d : UInt8) : ∀ l : List Part, (∀ p ∈ l, PT w B p) → ∃ l' : List Part, l'.map PV = l.map PV ∧ ∀ p ∈ l', PT (w.setCell ⟨g, k, none⟩ (B8 d)) B p
  | [], _ => ⟨[], rfl, fun p hp => by cases hp⟩
  | p :: l, h => by
    obtain ⟨bs', e, hp⟩ := (h p (List.mem_cons_self ..)).byte g k d
    obtain ⟨l', e2, hl⟩ := parts_byte g k d l (fun q hq => h q (List.mem_cons_of_mem _ hq))
    refine ⟨⟨p.a, bs', p.cap⟩ :: l', ?_, fun q hq => ?_⟩
    · rw [List.map_cons, List.map_cons, e2]
      show Value.slice p.a bs'.length p.cap :: _ = Value.slice p.a p.bs.length p.cap :: _
      rw [e]
    · rcases List.mem_cons.1 hq with rfl | hq
      · exact hp
      · exact hl q hq
/-- A node's own blocks. -/
def Blk (z : NM) (j : Nat) : Prop := z.kv.ownBlock = some j ∨ z.iv.ownBlock = some j ∨ ∃ p ∈ z.v.l, 0 < p.bs.length ∧ ∃ o, p.a = some ⟨j, o, none⟩
/-- Nodes' boxes stay. -/
def KeepN (w w' : World) : Prop := ∀ (k : Nat) (cs : Array Value) (t : TypeId), w.heap[k]? = some (.cells cs t (0, 0)) → (t = 28 ∨ t = 26) → w'.heap[k]? = some (.cells cs t (0, 0))
theorem KeepN.cell {w wx : World} (h : KeepN w wx) {g i : Nat} {v : Value} {cs0 : Array Value} {t0 : TypeId} {fr : Nat × Nat} (hg : wx.heap[g]? = some (.cells cs0 t0 fr)) (h1 : t0 ≠ 28) (h2 : t0 ≠ 26) : KeepN w (wx.setCell ⟨g, i, none⟩ v) := fun k cs t hk ht => by
  have q := h k cs t hk ht
  by_cases e : k = g
  · subst e
    rw [hg] at q
    injection q with q1
    injection q1 with _ q2 _
    subst q2
    rcases ht with c | c
    · exact absurd c h1
    · exact absurd c h2
  · rw [heap_setCell_other wx ⟨g, i, none⟩ k v e]; exact q
/-- What lies there while a node is spoilt. -/
def Sp (w wx : World) (B N0 : Nat) (z : NM) : Prop := ∃ (ks' : List (List UInt8)) (hs' : List Part) (zs' : List Int), ks'.length = z.ks.length ∧ hs'.map PV = z.v.l.map PV ∧ zs'.length = z.is.length ∧ NOwn wx B ⟨z.leaf, z.ka, z.kc, ks', ⟨z.v.a, z.v.cap, hs'⟩, z.ia, z.ic, zs'⟩ ∧ Touch (fun j => B ≤ j ∧ Blk z j) w wx ∧ wx.heap[N0]? = some (.cells #[.bool z.leaf, z.kv, z.vv, z.iv] 28 (0, 0)) ∧ KeepN w wx
theorem map_len {l l' : List Part} (h : l'.map PV = l.map PV) : l'.length = l.length := by
  have := congrArg List.length h
  rwa [List.length_map, List.length_map] at this
theorem Sp.key {w wx : World} {B N0 : Nat} {z : NM} (h : Sp w wx B N0 z) {i : Nat} (hi : i < z.ks.length) : ∃ g, z.ka = some ⟨g, 0, none⟩ ∧ wx.frozen? ⟨g, i, none⟩ = false ∧ (wx.cell? ⟨g, i, none⟩).isSome = true ∧ Sp w (wx.setCell ⟨g, i, none⟩ (Str [122, 122])) B N0 z := by
  obtain ⟨ks', hs', zs', e1, e2, e3, ho, hT, hb, hkp⟩ := h
  obtain ⟨g, eg, hg, hrow, hfz, hsm⟩ := row_setc ho.keys (k := i) (show i < ks'.length by omega) (Str [122, 122])
  have eg' : z.ka = some ⟨g, 0, none⟩ := eg
  have hown : (Value.slice z.ka ks'.length z.kc).ownBlock = some g := by rw [eg']; rfl
  have hS : Touch (fun j => j = g) wx (wx.setCell ⟨g, i, none⟩ (Str [122, 122])) := Touch.setCell (T := fun j => j = g) (Touch.refl _ wx) (p := ⟨g, i, none⟩) (fun _ => rfl) _
  have hne : ∀ {B' : Nat} {e : TypeId} {u : Value} {m : Nat} {xs : List Value}, wx.ownsRow B' e 1 u m xs → 9 ≠ e → ∀ j, u.ownBlock = some j → ¬ j = g := fun hu he j hj c => row_apt ho.keys hu he (j := g) hown (by rw [hj, c])
  refine ⟨g, eg', hfz, hsm, ks'.set i [122, 122], hs', zs', by rw [List.length_set]; exact e1, e2, e3, ⟨?_, row_touch ho.vals hS (hne ho.vals (by decide)), fun p hp => (ho.each p hp).touch hS (fun k hk cs' fr e => ?_), row_touch ho.kids hS (hne ho.kids (by decide))⟩, hT.then hS (fun j hj e => by subst e; exact ⟨hg, .inl (by rw [show z.kv = .slice z.ka z.ks.length z.kc from rfl, eg']; rfl)⟩), ?_, ?_⟩
  · show World.ownsRow _ B 9 1 (.slice z.ka (ks'.set i [122, 122]).length z.kc) (ks'.set i [122, 122]).length (Ss (ks'.set i [122, 122]))
    rw [List.length_set, show Ss (ks'.set i [122, 122]) = (Ss ks').set i (Str [122, 122]) by rw [Ss, Ss, List.map_set]]
    exact hrow
  · subst hk
    obtain ⟨cur, q⟩ := row_type ho.keys hown
    rw [q] at e
    injection e with q1
    injection q1 with _ q2 _
    exact absurd q2 (by decide)
  · rw [hS.block N0 (Array.getElem?_eq_some_iff.1 hb).1 (fun c => row_ne ho.keys hb (by decide) (j := g) hown c.symm)]
    exact hb
  · obtain ⟨cur, q⟩ := row_type ho.keys hown
    exact hkp.cell q (by decide) (by decide)
theorem Sp.kid {w wx : World} {B N0 : Nat} {z : NM} (h : Sp w wx B N0 z) {i : Nat} (hi : i < z.is.length) : ∃ (g : Nat) (v : Int), z.ia = some ⟨g, 0, none⟩ ∧ wx.frozen? ⟨g, i, none⟩ = false ∧ wx.cell? ⟨g, i, none⟩ = some (.int .i64 v) ∧ ∀ v' : Int, Sp w (wx.setCell ⟨g, i, none⟩ (.int .i64 v')) B N0 z := by
  obtain ⟨ks', hs', zs', e1, e2, e3, ho, hT, hb, hkp⟩ := h
  obtain ⟨g, eg, hg, _, hfz, hsm⟩ := row_setc ho.kids (k := i) (show i < zs'.length by omega) (.int .i64 0)
  have eg' : z.ia = some ⟨g, 0, none⟩ := eg
  obtain ⟨b, o, ea, hc⟩ := ho.nq.kid (i := i) (show i < zs'.length by omega)
  have ea' : z.ia = some ⟨b, o, none⟩ := ea
  rw [eg'] at ea'
  injection ea' with q1
  injection q1 with q2 q3 _
  subst q2 q3
  rw [Nat.zero_add] at hc
  have hown : (Value.slice z.ia zs'.length z.ic).ownBlock = some g := by rw [eg']; rfl
  refine ⟨g, _, eg', hfz, hc, fun v' => ?_⟩
  obtain ⟨g2, eg2, hg2, hrow, _, _⟩ := row_setc ho.kids (k := i) (show i < zs'.length by omega) (.int .i64 v')
  have eg2' : z.ia = some ⟨g2, 0, none⟩ := eg2
  rw [eg'] at eg2'
  injection eg2' with q1
  injection q1 with q2 _ _
  subst q2
  have hS : Touch (fun j => j = g) wx (wx.setCell ⟨g, i, none⟩ (.int .i64 v')) := Touch.setCell (T := fun j => j = g) (Touch.refl _ wx) (p := ⟨g, i, none⟩) (fun _ => rfl) _
  have hne : ∀ {B' : Nat} {e : TypeId} {u : Value} {m : Nat} {xs : List Value}, wx.ownsRow B' e 1 u m xs → 3 ≠ e → ∀ j, u.ownBlock = some j → ¬ j = g := fun hu he j hj c => row_apt ho.kids hu he (j := g) hown (by rw [hj, c])
  refine ⟨ks', hs', zs'.set i v', e1, e2, by rw [List.length_set]; exact e3, ⟨row_touch ho.keys hS (hne ho.keys (by decide)), row_touch ho.vals hS (hne ho.vals (by decide)), fun p hp => (ho.each p hp).touch hS (fun k hk cs' fr e => ?_), ?_⟩, hT.then hS (fun j hj e => by subst e; exact ⟨hg, .inr (.inl (by rw [show z.iv = .slice z.ia z.is.length z.ic from rfl, eg']; rfl))⟩), ?_, ?_⟩
  · subst hk
    obtain ⟨cur, q⟩ := row_type ho.kids hown
    rw [q] at e
    injection e with q1
    injection q1 with _ q2 _
    exact absurd q2 (by decide)
  · show World.ownsRow _ B 3 1 (.slice z.ia (zs'.set i v').length z.ic) (zs'.set i v').length (Is (zs'.set i v'))
    rw [List.length_set, show Is (zs'.set i v') = (Is zs').set i (.int .i64 v') by rw [Is, Is, List.map_set]]
    exact hrow
  · rw [hS.block N0 (Array.getElem?_eq_some_iff.1 hb).1 (fun c => row_ne ho.kids hb (by decide) (j := g) hown c.symm)]
    exact hb
  · obtain ⟨cur, q⟩ := row_type ho.kids hown
    exact hkp.cell q (by decide) (by decide)
theorem Sp.val {w wx : World} {B N0 : Nat} {z : NM} (h : Sp w wx B N0 z) {u : Nat} (hu : u < z.v.l.length) : ∃ b o, z.v.a = some ⟨b, o, none⟩ ∧ wx.cell? ⟨b, o + u, none⟩ = some (PV z.v.l[u]) := by
  obtain ⟨ks', hs', zs', e1, e2, e3, ho, hT, hb, _⟩ := h
  have hu2 : u < hs'.length := by rw [map_len e2]; exact hu
  obtain ⟨b, o, ea, hc⟩ := ho.nq.vals.cell (i := u) hu2
  refine ⟨b, o, ea, ?_⟩
  have q : (hs'.map PV)[u]? = (z.v.l.map PV)[u]? := by rw [e2]
  rw [List.getElem?_map, List.getElem?_eq_getElem hu2, List.getElem?_map, List.getElem?_eq_getElem hu] at q
  rw [hc]; exact q
theorem Sp.byte {w wx : World} {B N0 : Nat} {z : NM} (h : Sp w wx B N0 z) {u j : Nat} (hu : u < z.v.l.length) (hj : j < z.v.l[u].bs.length) : ∃ (b o : Nat) (c : UInt8), z.v.l[u].a = some ⟨b, o, none⟩ ∧ wx.frozen? ⟨b, o + j, none⟩ = false ∧ wx.cell? ⟨b, o + j, none⟩ = some (.int .u8 (c.toNat : Int)) ∧ ∀ d : UInt8, Sp w (wx.setCell ⟨b, o + j, none⟩ (.int .u8 (d.toNat : Int))) B N0 z := by
  obtain ⟨ks', hs', zs', e1, e2, e3, ho, hT, hb, hkp⟩ := h
  have hu2 : u < hs'.length := by rw [map_len e2]; exact hu
  have q : (hs'.map PV)[u]? = (z.v.l.map PV)[u]? := by rw [e2]
  rw [List.getElem?_map, List.getElem?_eq_getElem hu2, List.getElem?_map, List.getElem?_eq_getElem hu] at q
  have q' : Value.slice hs'[u].a hs'[u].bs.length hs'[u].cap = .slice z.v.l[u].a z.v.l[u].bs.length z.v.l[u].cap := Option.some.inj q
  injection q' with q1 q2 q3
  have hp := ho.each hs'[u] (List.getElem_mem hu2)
  have hj2 : j < hs'[u].bs.length := by rw [q2]; exact hj
  obtain ⟨b, o, ea, hq, hc⟩ := hp.q.at_ j (B8 (hs'[u].bs[j]'hj2)) (by rw [S_get, List.getElem?_eq_getElem hj2]; rfl)
  have hfz := hp.fz j hj2 b o ea
  refine ⟨b, o, _, by rw [← q1]; exact ea, hfz, hc, fun d => ?_⟩
  obtain ⟨cs, fr, hbk⟩ := hq.2
  obtain ⟨l', el, hl⟩ := parts_byte (w := wx) b (o + j) d hs' ho.each
  have hS : Touch (fun k => k = b) wx (wx.setCell ⟨b, o + j, none⟩ (.int .u8 (d.toNat : Int))) := Touch.setCell (T := fun k => k = b) (Touch.refl _ wx) (p := ⟨b, o + j, none⟩) (fun _ => rfl) _
  have hne : ∀ {B' : Nat} {e : TypeId} {v : Value} {m : Nat} {xs : List Value}, wx.ownsRow B' e 1 v m xs → e ≠ 5 → ∀ k, v.ownBlock = some k → ¬ k = b := fun hu he k hk c => by
    subst c
    obtain ⟨cur, qq⟩ := row_type hu hk
    rw [hbk] at qq
    injection qq with q1
    injection q1 with _ q2 _
    exact he q2.symm
  have hlen : l'.length = hs'.length := map_len el
  refine ⟨ks', l', zs', e1, el.trans e2, e3, ⟨row_touch ho.keys hS (hne ho.keys (by decide)), ?_, hl, row_touch ho.kids hS (hne ho.kids (by decide))⟩, hT.then hS (fun k hk e => by subst e; exact ⟨hq.1, .inr (.inr ⟨z.v.l[u], List.getElem_mem hu, Nat.lt_of_le_of_lt (Nat.zero_le _) hj, o, by rw [← q1]; exact ea⟩)⟩), ?_, ?_⟩
  · have r := row_touch ho.vals hS (hne ho.vals (by decide))
    show World.ownsRow _ B 30 1 (.slice z.v.a l'.length z.v.cap) l'.length (l'.map PV)
    rw [hlen, el]; exact r
  · rw [hS.block N0 (Array.getElem?_eq_some_iff.1 hb).1 (fun c => by
      subst c
      rw [hbk] at hb
      injection hb with q1
      injection q1 with _ q2 _
      exact absurd q2 (by decide))]
    exact hb
  · exact hkp.cell hbk (by decide) (by decide)
theorem byte_up (c : UInt8) : IntKind.u8.wrap ((c.toNat : Int) + 1) = ((c + 1).toNat : Int) := by
  rw [IntKind.wrap_u8, UInt8.toNat_add]
  have := c.toNat_lt
  show ((c.toNat : Int) + 1) % 256 = (((c.toNat + 1) % 256 : Nat) : Int)
  omega
/-- What spoil leaves: blocks from a mark on have turned. -/
def PSpoil (w : World) (B : Nat) (z : NM) (e : Ending) (w' : World) : Prop := e = .returned (.tuple #[]) ∧ Touch (fun j => B ≤ j ∧ Blk z j) w w' ∧ KeepN w w'
set_option maxRecDepth 100000 in
set_option maxHeartbeats 8000000 in
theorem spoil_any (z : NM) (w : World) (B : Nat) (h : NOwn w B z) (hs : NS z) : Calls Try.prog 24 #[z.val] w (PSpoil w B z) := by
  obtain ⟨l, ka, kc, ks, g, ia, ic, zs⟩ := z
  obtain ⟨kn, hkn⟩ : ∃ k, k = ks.length := ⟨_, rfl⟩
  obtain ⟨vn, hvn⟩ : ∃ k, k = g.l.length := ⟨_, rfl⟩
  obtain ⟨zn, hzn⟩ : ∃ k, k = zs.length := ⟨_, rfl⟩
  obtain ⟨va, hva⟩ : ∃ k, k = g.a := ⟨_, rfl⟩
  obtain ⟨vc, hvc⟩ : ∃ k, k = g.cap := ⟨_, rfl⟩
  have hk9 : kn ≤ 1000 := by rw [hkn]; exact hs.k
  have hv9 : vn ≤ 1000 := by rw [hvn]; exact hs.v
  have hz9 : zn ≤ 1000 := by rw [hzn]; exact hs.i
  have HVl := hid hs.vl
  obtain ⟨N0, hN0⟩ : ∃ N0, N0 = w.heap.size := ⟨_, rfl⟩
  obtain ⟨w1, hw1⟩ : ∃ w1, w1 = w.alloc (.cells #[.bool l, .slice ka kn kc, .slice va vn vc, .slice ia zn ic] 28) := ⟨_, rfl⟩
  have HS0 := hid (show Sp w w1 B N0 ⟨l, ka, kc, ks, g, ia, ic, zs⟩ by
    refine ⟨ks, g.l, zs, rfl, rfl, rfl, ?_, ?_, ?_, ?_⟩
    · rw [hw1]; exact h.adds ((Touch.refl _ w).alloc _)
    · rw [hw1]; exact ((Touch.refl _ w).alloc _)
    · rw [hw1, hN0, hkn, hvn, hzn, hva, hvc]; exact heap_alloc_new w _
    · rw [hw1]; exact fun k cs t hk _ => box_adds hk ((Touch.refl _ w).alloc _))
  have HEq := hid (show kn = ks.length ∧ vn = g.l.length ∧ zn = zs.length ∧ va = g.a ∧ vc = g.cap from ⟨hkn, hvn, hzn, hva, hvc⟩)
  have HBox := hid (fun (wx : World) (hS : Sp w wx B N0 ⟨l, ka, kc, ks, g, ia, ic, zs⟩) => show wx.heap[N0]? = some (.cells #[.bool l, .slice ka kn kc, .slice va vn vc, .slice ia zn ic] 28 (0, 0)) by
    obtain ⟨_, _, _, _, _, _, _, _, hb, _⟩ := hS
    rw [hkn, hvn, hzn, hva, hvc]; exact hb)
  show Calls Try.prog 24 #[.agg #[.bool l, .slice ka ks.length kc, .slice g.a g.l.length g.cap, .slice ia zs.length ic]] w (PSpoil w B ⟨l, ka, kc, ks, g, ia, ic, zs⟩)
  rw [← hkn, ← hvn, ← hzn, ← hva, ← hvc]
  clear h hs hkn hvn hzn hva hvc
  go_enter Try.func24, Try.ntmps24
  go_upto_region 1 with fail
  rw [← hw1, ← hN0]
  clear hw1 hN0
  obtain ⟨b0, b1, b2, b3⟩ := box_cells (HBox.out w1 HS0.out)
  go_upto_region 2 with fail
  clear b0 b1 b2 b3
  go_loopw [10] (fun t wx => ∃ i : Nat, i ≤ kn ∧ t = .int .i64 (i : Int) ∧ Hid (Sp w wx B N0 ⟨l, ka, kc, ks, g, ia, ic, zs⟩)) (fun t _ => kn - (intOf t).toNat)
  case atStart => exact ⟨0, Nat.zero_le _, rfl, HS0.out⟩
  case round =>
    obtain ⟨i, hi, rfl, HS⟩ := hrel
    obtain ⟨b0, b1, b2, b3⟩ := box_cells (HBox.out _ HS.out)
    by_cases hlt : i < kn
    · have hlz : (i : Int) < (kn : Int) := by omega
      obtain ⟨q, eq, hfz, hsm, hnx⟩ := HS.out.key (i := i) (show i < ks.length by rw [← HEq.out.1]; exact hlt)
      obtain ⟨u9, hu9⟩ := Option.isSome_iff_exists.1 hsm
      have eq' : ka = some ⟨q, 0, none⟩ := eq
      have HN := hid hnx
      clear hsm eq hnx
      subst eq'
      go_wp2_with fail
      go_roundw
      case rel => exact ⟨i + 1, by omega, by go_num, HN.out⟩
      case measure => simp [intOf]; omega
    · obtain rfl : i = kn := by omega
      have hlz : ¬ (i : Int) < (i : Int) := by omega
      go_upto_region 7 with fail
      clear b0 b1 b2 b3
      go_loopw [21] (fun t wx => ∃ u : Nat, u ≤ vn ∧ t = .int .i64 (u : Int) ∧ Hid (Sp w wx B N0 ⟨l, ka, kc, ks, g, ia, ic, zs⟩)) (fun t _ => vn - (intOf t).toNat)
      case atStart => exact ⟨0, Nat.zero_le _, rfl, HS.out⟩
      case round =>
        obtain ⟨u, hu, rfl, HV⟩ := hrel
        by_cases hult : u < vn
        · have hulz : (u : Int) < (vn : Int) := by omega
          have hu1 : u < g.l.length := by rw [← HEq.out.2.1]; exact hult
          have HU1 := hid hu1
          obtain ⟨b, o, ea, hc⟩ := HV.out.val (u := u) hu1
          obtain ⟨m, hm⟩ : ∃ m, m = g.l[u].bs.length := ⟨_, rfl⟩
          obtain ⟨pa, hpa⟩ : ∃ m, m = g.l[u].a := ⟨_, rfl⟩
          obtain ⟨pc, hpc⟩ : ∃ m, m = g.l[u].cap := ⟨_, rfl⟩
          have hm9 : m ≤ 1000 := by rw [hm]; exact HVl.out _ (List.getElem_mem hu1)
          rw [show PV ((⟨l, ka, kc, ks, g, ia, ic, zs⟩ : NM).v.l[u]'hu1) = .slice pa m pc by rw [hm, hpa, hpc]; rfl] at hc
          have HM := hid hm
          have HPa := hid hpa
          have ea' : va = some ⟨b, o, none⟩ := by rw [HEq.out.2.2.2.1]; exact ea
          clear hm hpa hpc ea hu1
          subst ea'
          go_upto_region 10 with fail
          clear hc
          go_loopw [27] (fun t wx => ∃ j : Nat, j ≤ m ∧ t = .int .i64 (j : Int) ∧ Hid (Sp w wx B N0 ⟨l, ka, kc, ks, g, ia, ic, zs⟩)) (fun t _ => m - (intOf t).toNat)
          case atStart => exact ⟨0, Nat.zero_le _, rfl, HV.out⟩
          case round =>
            obtain ⟨j, hj, rfl, HJ⟩ := hrel
            by_cases hjlt : j < m
            · have hjlz : (j : Int) < (m : Int) := by omega
              obtain ⟨pb, po, c, epa, hfz, hcc, hnx⟩ := HJ.out.byte (u := u) (j := j) HU1.out (by show j < g.l[u].bs.length; rw [← HM.out]; exact hjlt)
              have epa' : pa = some ⟨pb, po, none⟩ := by rw [HPa.out]; exact epa
              have HN := hid (hnx (c + 1))
              have hup := byte_up c
              clear epa hnx
              subst epa'
              go_wp2_with fail
              go_roundw
              case rel => exact ⟨j + 1, by omega, by go_num, HN.out⟩
              case measure => simp [intOf]; omega
            · obtain rfl : j = m := by omega
              have hjlz : ¬ (j : Int) < (j : Int) := by omega
              go_wp2_with fail
              go_roundw
              case rel => exact ⟨u + 1, by omega, by go_num, HJ.out⟩
              case measure => simp [intOf]; omega
        · obtain rfl : u = vn := by omega
          have hulz : ¬ (u : Int) < (u : Int) := by omega
          obtain ⟨b0, b1, b2, b3⟩ := box_cells (HBox.out _ HV.out)
          go_upto_region 16 with fail
          clear b0 b1 b2 b3
          go_loopw [41] (fun t wx => ∃ j : Nat, j ≤ zn ∧ t = .int .i64 (j : Int) ∧ Hid (Sp w wx B N0 ⟨l, ka, kc, ks, g, ia, ic, zs⟩)) (fun t _ => zn - (intOf t).toNat)
          case atStart => exact ⟨0, Nat.zero_le _, rfl, HV.out⟩
          case round =>
            obtain ⟨j, hj, rfl, HJ⟩ := hrel
            obtain ⟨b0, b1, b2, b3⟩ := box_cells (HBox.out _ HJ.out)
            by_cases hjlt : j < zn
            · have hjlz : (j : Int) < (zn : Int) := by omega
              obtain ⟨q, v, eq, hfz, hcc, hnx⟩ := HJ.out.kid (i := j) (show j < zs.length by rw [← HEq.out.2.2.1]; exact hjlt)
              have eq' : ia = some ⟨q, 0, none⟩ := eq
              have HN := hid hnx
              clear eq hnx
              subst eq'
              go_wp2_with fail
              go_roundw
              case rel => exact ⟨j + 1, by omega, by go_num, HN.out _⟩
              case measure => simp [intOf]; omega
            · obtain rfl : j = zn := by omega
              have hjlz : ¬ (j : Int) < (j : Int) := by omega
              go_wp2_with fail
              refine bodyPost_ret (results_none rfl _ _ _) rfl ?_
              obtain ⟨_, _, _, _, _, _, _, hT, _, hkp⟩ := HJ.out
              exact ⟨rfl, hT, hkp⟩
end Go.Proofs.Ytplppnngmlljnaa
