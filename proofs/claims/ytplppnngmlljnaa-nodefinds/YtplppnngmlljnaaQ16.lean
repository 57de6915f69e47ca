/- Texts put together: NGreat, NInsert, NWorks, NBack, NFMath, NFinds. -/
import Derived.Test.YtplppnngmlljnaaQ14
import Derived.Test.YtplppnngmlljnaaQ15
import Derived.Lib.SlBytesConst
/- Whether a node is too great to be asked of. -/
namespace Go.Proofs.Ytplppnngmlljnaa
open Go.RowKit

def N.great (n : N.Nd) : Bool := (((decide (200 < n.keys.length) || decide (200 < n.vals.length)) || decide (200 < n.kids.length)) || n.keys.any fun k => decide (200 < k.length)) || n.vals.any fun k => decide (200 < k.length)
theorem any_at {l : List (List UInt8)} {j : Nat} (hj : j < l.length) (h : 200 < (l.getD j []).length) : (l.any fun k => decide (200 < k.length)) = true := by
  rw [List.any_eq_true]
  refine ⟨l[j], List.getElem_mem hj, decide_eq_true ?_⟩
  simpa [List.getD_eq_getElem?_getD, hj] using h
theorem any_no {l : List (List UInt8)} (h : ∀ j, j < l.length → ¬ 200 < (l.getD j []).length) : (l.any fun k => decide (200 < k.length)) = false := by
  rw [List.any_eq_false]
  intro k hk
  obtain ⟨j, hj, rfl⟩ := List.getElem_of_mem hk
  have := h j hj
  simpa [List.getD_eq_getElem?_getD, hj] using this
theorem N.great_k {n : N.Nd} (h : 200 < n.keys.length) : N.great n = true := by simp [N.great, h]
theorem N.great_v {n : N.Nd} (h : 200 < n.vals.length) : N.great n = true := by simp [N.great, h]
theorem N.great_i {n : N.Nd} (h : 200 < n.kids.length) : N.great n = true := by simp [N.great, h]
theorem N.great_kk {n : N.Nd} {j : Nat} (hj : j < n.keys.length) (h : 200 < (n.keys.getD j []).length) : N.great n = true := by unfold N.great; rw [any_at hj h]; simp
theorem N.great_vv {n : N.Nd} {j : Nat} (hj : j < n.vals.length) (h : 200 < (n.vals.getD j []).length) : N.great n = true := by unfold N.great; rw [any_at hj h]; simp
theorem N.great_no {n : N.Nd} (h1 : ¬ 200 < n.keys.length) (h2 : ¬ 200 < n.vals.length) (h3 : ¬ 200 < n.kids.length) (h4 : ∀ j, j < n.keys.length → ¬ 200 < (n.keys.getD j []).length) (h5 : ∀ j, j < n.vals.length → ¬ 200 < (n.vals.getD j []).length) : N.great n = false := by
  unfold N.great
  rw [any_no h4, any_no h5, decide_eq_false h1, decide_eq_false h2, decide_eq_false h3]; rfl
theorem N.great_is {n : N.Nd} (h : N.great n = false) : n.keys.length ≤ 200 ∧ n.vals.length ≤ 200 ∧ n.kids.length ≤ 200 ∧ (∀ k ∈ n.keys, k.length ≤ 200) ∧ (∀ k ∈ n.vals, k.length ≤ 200) := by
  simp only [N.great, Bool.or_eq_false_iff, decide_eq_false_iff_not, List.any_eq_false, decide_eq_true_eq] at h
  obtain ⟨⟨⟨⟨h1, h2⟩, h3⟩, h4⟩, h5⟩ := h
  exact ⟨by omega, by omega, by omega, fun k hk => by have := h4 k hk; omega, fun k hk => by have := h5 k hk; omega⟩
set_option maxRecDepth 100000 in
set_option maxHeartbeats 2000000 in
theorem great_any (x : NM) (w : World) {Q : Nat → Prop} (h : NQ w Q x) : Calls Try.prog 9 #[x.val] w (Adding (.bool (N.great x.nd)) w) := by
  obtain ⟨leaf, ka, kc, ks, g, ia, ic, zs⟩ := x
  have HQ := hid h
  obtain ⟨r, hr⟩ : ∃ r, r = N.great (NM.nd ⟨leaf, ka, kc, ks, g, ia, ic, zs⟩) := ⟨_, rfl⟩
  have HRr := hid hr
  rw [← hr]
  clear hr h
  obtain ⟨kn, hkn⟩ : ∃ kn, kn = ks.length := ⟨_, rfl⟩
  obtain ⟨vn, hvn⟩ : ∃ vn, vn = g.l.length := ⟨_, rfl⟩
  obtain ⟨zn, hzn⟩ : ∃ zn, zn = zs.length := ⟨_, rfl⟩
  obtain ⟨ga, hga⟩ : ∃ a, a = g.a := ⟨_, rfl⟩
  unfold NM.val NM.kv NM.vv NM.iv
  simp only [← hkn, ← hvn, ← hzn, ← hga]
  have HKn := hid hkn
  have HVn := hid (show vn = g.bs.length by rw [hvn]; exact (List.length_map _).symm)
  have HVl := hid hvn
  have HZn := hid hzn
  have HGa := hid hga
  clear hkn hvn hzn hga
  obtain ⟨N0, hN0⟩ : ∃ N0, N0 = w.heap.size := ⟨_, rfl⟩
  obtain ⟨w1, hw1⟩ : ∃ w1, w1 = w.alloc (.cells #[.bool leaf, .slice ka kn kc, .slice ga vn g.cap, .slice ia zn ic] 26) := ⟨_, rfl⟩
  have HA1 := hid (show Adds w w1 by rw [hw1]; exact (Touch.refl _ w).alloc _)
  have hbx : w1.heap[N0]? = some (.cells #[.bool leaf, .slice ka kn kc, .slice ga vn g.cap, .slice ia zn ic] 26) := by rw [hw1, hN0]; exact heap_alloc_new w _
  obtain ⟨b0, b1, b2, b3⟩ := box_cells hbx
  clear hbx
  go_enter Try.func9, Try.ntmps9
  go_upto_region 1 with fail
  rw [← hw1, ← hN0]
  clear hw1 hN0
  by_cases hk9 : 200 < kn
  · have hkz : (200 : Int) < (kn : Int) := by omega
    have hkd : decide ((200 : Int) < (kn : Int)) = true := decide_eq_true hkz
    go_wp2_with fail
    go_ret
    exact ⟨congrArg (fun z => Ending.returned (Value.bool z)) (show true = r by rw [HRr.out]; exact (N.great_k (show 200 < ks.length by rw [← HKn.out]; exact hk9)).symm), HA1.out⟩
  have hkz : ¬ (200 : Int) < (kn : Int) := by omega
  have hkd : decide ((200 : Int) < (kn : Int)) = false := decide_eq_false hkz
  by_cases hv9 : 200 < vn
  · have hvz : (200 : Int) < (vn : Int) := by omega
    have hvd : decide ((200 : Int) < (vn : Int)) = true := decide_eq_true hvz
    go_wp2_with fail
    go_ret
    exact ⟨congrArg (fun z => Ending.returned (Value.bool z)) (show true = r by rw [HRr.out]; exact (N.great_v (show 200 < g.bs.length by rw [← HVn.out]; exact hv9)).symm), HA1.out⟩
  have hvz : ¬ (200 : Int) < (vn : Int) := by omega
  have hvd : decide ((200 : Int) < (vn : Int)) = false := decide_eq_false hvz
  by_cases hz9 : 200 < zn
  · have hzz : (200 : Int) < (zn : Int) := by omega
    have hzd : decide ((200 : Int) < (zn : Int)) = true := decide_eq_true hzz
    go_wp2_with fail
    go_ret
    exact ⟨congrArg (fun z => Ending.returned (Value.bool z)) (show true = r by rw [HRr.out]; exact (N.great_i (show 200 < zs.length by rw [← HZn.out]; exact hz9)).symm), HA1.out⟩
  have hzz : ¬ (200 : Int) < (zn : Int) := by omega
  have hzd : decide ((200 : Int) < (zn : Int)) = false := decide_eq_false hzz
  go_wp2_with fail
  go_loopw [26] (fun t wx => ∃ i : Nat, i ≤ kn ∧ t = .int .i64 (i : Int) ∧ wx = w1 ∧ Hid (∀ j, j < i → ¬ 200 < (ks.getD j []).length)) (fun t _ => kn - (intOf t).toNat)
  case atStart => exact ⟨0, Nat.zero_le _, rfl, rfl, fun j h => by omega⟩
  case round =>
    obtain ⟨i, hi, rfl, hwx, HJ⟩ := hrel
    rw [hwx]
    clear hwx
    by_cases hlt : i < kn
    · have hlz : (i : Int) < (kn : Int) := by omega
      have hi2 : i < ks.length := by rw [← HKn.out]; exact hlt
      obtain ⟨b, o, ea, hc0⟩ := HQ.out.key hi2
      have ea' : ka = some ⟨b, o, none⟩ := ea
      rw [ea'] at b1 ⊢
      obtain ⟨k, hk⟩ : ∃ k, k = ks.getD i [] := ⟨_, rfl⟩
      have hc : w1.cell? ⟨b, o + i, none⟩ = some (.string ⟨k.toArray⟩) := by rw [hk]; exact below_adds HA1.out hc0
      have HK := hid hk
      have HI2 := hid hi2
      clear hc0 hk hi2 ea ea'
      by_cases h40 : 200 < k.length
      · have h40z : (200 : Int) < (k.length : Int) := by omega
        go_wp2_with fail
        go_ret
        exact ⟨congrArg (fun z => Ending.returned (Value.bool z)) (show true = r by rw [HRr.out]; exact (N.great_kk (n := NM.nd ⟨leaf, _, kc, ks, g, ia, ic, zs⟩) HI2.out (by show 200 < (ks.getD i []).length; rw [← HK.out]; exact h40)).symm), HA1.out⟩
      · have h40z : ¬ (200 : Int) < (k.length : Int) := by omega
        go_wp2_with fail
        go_roundw
        case rel =>
          refine ⟨i + 1, by omega, by go_num, by trivial, fun j hj => ?_⟩
          rcases Nat.lt_or_eq_of_le (Nat.le_of_lt_succ hj) with q | q
          · exact HJ.out j q
          · rw [q, ← HK.out]; exact h40
        case measure => simp [intOf]; omega
    · obtain rfl : i = kn := by omega
      have hlz : ¬ (i : Int) < (i : Int) := by omega
      go_wp2_with fail
      go_loopw [37] (fun t wx => ∃ u : Nat, u ≤ vn ∧ t = .int .i64 (u : Int) ∧ wx = w1 ∧ Hid (∀ j, j < u → ¬ 200 < (g.bs.getD j []).length)) (fun t _ => vn - (intOf t).toNat)
      case atStart => exact ⟨0, Nat.zero_le _, rfl, rfl, fun j h => by omega⟩
      case round =>
        obtain ⟨u, hu, rfl, hwx, HV⟩ := hrel
        rw [hwx]
        clear hwx
        by_cases hult : u < vn
        · have hulz : (u : Int) < (vn : Int) := by omega
          have hu1 : u < g.l.length := by rw [← HVl.out]; exact hult
          obtain ⟨b, o, ea, hc0⟩ := HQ.out.vals.cell hu1
          obtain ⟨p, hp⟩ : ∃ p, p = g.l[u] := ⟨_, rfl⟩
          obtain ⟨m, hm⟩ : ∃ m, m = p.bs.length := ⟨_, rfl⟩
          obtain ⟨pa, hpa⟩ : ∃ a, a = p.a := ⟨_, rfl⟩
          obtain ⟨pc, hpc⟩ : ∃ a, a = p.cap := ⟨_, rfl⟩
          have hc : w1.cell? ⟨b, o + u, none⟩ = some (.slice pa m pc) := by rw [hm, hpa, hpc, hp]; exact below_adds HA1.out hc0
          have HM := hid (show m = (g.bs.getD u []).length by rw [hm, hp, Pl.bs, List.getD_eq_getElem?_getD, List.getElem?_map, List.getElem?_eq_getElem hu1]; rfl)
          have ea' : ga = some ⟨b, o, none⟩ := by rw [HGa.out]; exact ea
          rw [ea'] at b2 ⊢
          clear hc0 hp hm hpa hpc ea ea' hu1
          by_cases h40 : 200 < m
          · have h40z : (200 : Int) < (m : Int) := by omega
            go_wp2_with fail
            go_ret
            exact ⟨congrArg (fun z => Ending.returned (Value.bool z)) (show true = r by rw [HRr.out]; exact (N.great_vv (n := NM.nd ⟨leaf, ka, kc, ks, g, ia, ic, zs⟩) (show u < g.bs.length by rw [← HVn.out]; exact hult) (by show 200 < (g.bs.getD u []).length; rw [← HM.out]; exact h40)).symm), HA1.out⟩
          · have h40z : ¬ (200 : Int) < (m : Int) := by omega
            go_wp2_with fail
            go_roundw
            case rel =>
              refine ⟨u + 1, by omega, by go_num, by trivial, fun j hj => ?_⟩
              rcases Nat.lt_or_eq_of_le (Nat.le_of_lt_succ hj) with q | q
              · exact HV.out j q
              · rw [q, ← HM.out]; exact h40
            case measure => simp [intOf]; omega
        · obtain rfl : u = vn := by omega
          have hulz : ¬ (u : Int) < (u : Int) := by omega
          go_wp2_with fail
          go_ret
          exact ⟨congrArg (fun z => Ending.returned (Value.bool z)) (show false = r by rw [HRr.out]; exact (N.great_no (n := NM.nd ⟨leaf, ka, kc, ks, g, ia, ic, zs⟩) (by show ¬ 200 < ks.length; rw [← HKn.out]; exact hk9) (by show ¬ 200 < g.bs.length; rw [← HVn.out]; exact hv9) (by show ¬ 200 < zs.length; rw [← HZn.out]; exact hz9) (fun j hj => HJ.out j (by rw [HKn.out]; exact hj)) (fun j hj => HV.out j (by rw [HVn.out]; exact hj))).symm), HA1.out⟩
end Go.Proofs.Ytplppnngmlljnaa

/- A cell put in. -/
namespace Go.Proofs.Ytplppnngmlljnaa
open Go.RowKit

theorem three_new (w : World) (a b c : Value) (t1 t2 t3 : TypeId) : (((w.alloc (.cells #[a] t1)).alloc (.cells #[b] t2)).alloc (.cells #[c] t3)).cell? ⟨w.heap.size, 0, none⟩ = some a ∧ (((w.alloc (.cells #[a] t1)).alloc (.cells #[b] t2)).alloc (.cells #[c] t3)).cell? ⟨w.heap.size + 1, 0, none⟩ = some b ∧ (((w.alloc (.cells #[a] t1)).alloc (.cells #[b] t2)).alloc (.cells #[c] t3)).cell? ⟨w.heap.size + 2, 0, none⟩ = some c := by
  have e1 : (w.alloc (.cells #[a] t1)).heap.size = w.heap.size + 1 := by simp
  have e2 : ((w.alloc (.cells #[a] t1)).alloc (.cells #[b] t2)).heap.size = w.heap.size + 2 := by simp
  refine ⟨?_, ?_, ?_⟩
  · rw [cellOf (box_adds (box_adds (heap_alloc_new w (.cells #[a] t1)) ((Touch.refl _ _).alloc _)) ((Touch.refl _ _).alloc _))]; rfl
  · rw [← e1, cellOf (box_adds (heap_alloc_new (w.alloc (.cells #[a] t1)) (.cells #[b] t2)) ((Touch.refl _ _).alloc _))]; rfl
  · rw [← e2, cellOf (heap_alloc_new _ (.cells #[c] t3))]; rfl
theorem cq_one {w : World} {g : Nat} {u : Value} (h : w.cell? ⟨g, 0, none⟩ = some u) : CQ w (fun _ => True) (some ⟨g, 0, none⟩) [u] := by
  intro j v hj
  match j, hj with
  | 0, hj =>
    obtain rfl : u = v := by simpa using hj
    exact ⟨g, 0, rfl, trivial, h⟩
theorem nq_one {w : World} {g0 g1 g2 : Nat} {key val : List UInt8} {kid : Int} {a : Option Addr} {vn cap : Nat} {Q : Nat → Prop} (hn : vn = val.length) (h0 : w.cell? ⟨g0, 0, none⟩ = some (Str key)) (h1 : w.cell? ⟨g1, 0, none⟩ = some (.slice a vn cap)) (h2 : w.cell? ⟨g2, 0, none⟩ = some (.int .i64 kid)) (hA : PQ w Q ⟨a, val, cap⟩) :
    NQ w (fun _ => True) ⟨false, some ⟨g0, 0, none⟩, 1, [key], ⟨some ⟨g1, 0, none⟩, 1, [⟨a, val, cap⟩]⟩, some ⟨g2, 0, none⟩, 1, [kid]⟩ := by
  subst hn
  refine ⟨cq_one h0, fun e => (by cases e), by simp, ⟨cq_one h1, fun e => (by cases e), fun p hp => ?_⟩, by simp, cq_one h2, fun e => (by cases e), by simp⟩
  rw [List.mem_singleton.1 hp]
  exact hA.mono (fun _ _ _ => trivial)
set_option maxRecDepth 100000 in
set_option maxHeartbeats 8000000 in
theorem ninsert_any (x : NM) (i : Int) (key : List UInt8) (a : Option Addr) (val : List UInt8) (vn cap : Nat) (kid : Int) (w : World) {Q Q' : Nat → Prop} (hx : NQ w Q x) (hb : N.Bd 900 x.nd) (hvn : vn = val.length) (hval : PQ w Q' ⟨a, val, cap⟩) (hkl : key.length ≤ 1000) (hvl : vn ≤ 1000) :
    Calls Try.prog 25 #[x.val, .int .i64 i, .string ⟨key.toArray⟩, .slice a vn cap, .int .i64 kid] w (PTnode w (N.insert x.nd i key val kid)) := by
  have sx := hb.ns (by decide)
  obtain ⟨N0, N1, w2, hN0, hN1, hw2, HA2, HB0, HB1, HL⟩ := nopen w #[.bool x.leaf, .slice x.ka x.ks.length x.kc, .slice x.v.a x.v.l.length x.v.cap, .slice x.ia x.is.length x.ic]
  obtain ⟨r, hr⟩ : ∃ r, r = N.right x.nd := ⟨_, rfl⟩
  have HC := hid (show Calls Try.prog 15 #[x.val] w2 (Adding (.bool r) w2) by rw [hr]; exact nright_any x w2 (hx.adds HA2.out) sx)
  have HR := hid hr
  have HX := hid hx
  have HSx := hid sx
  have HBd := hid hb
  have HVn := hid hvn
  have HVa := hid hval
  have HKl := hid hkl
  obtain ⟨kn, hkn⟩ : ∃ kn, kn = x.ks.length := ⟨_, rfl⟩
  have hk9 : kn ≤ 900 := by rw [hkn]; exact hb.k
  have HKn := hid hkn
  have hv : x.val = .agg #[.bool x.leaf, .slice x.ka kn x.kc, .slice x.v.a x.v.l.length x.v.cap, .slice x.ia x.is.length x.ic] := by rw [hkn]
  have HV := hid hv
  rw [hv] at HC ⊢
  rw [← hkn] at hw2 HB0
  clear hx sx hb hr hkn hv hvn hval hkl
  go_enter Try.func25, Try.ntmps25
  go_upto_region 1 with fail
  rw [← hw2, ← hN0, ← hN1]
  clear hw2 hN0 hN1
  obtain ⟨c0, c1, c2, c3⟩ := box_cells HB0.out
  cases r with
  | false =>
    have HE := hid (show N.insert x.nd i key val kid = (N.nil, 22) by unfold N.insert; rw [← HR.out]; rfl)
    go_upto_region 2 with (go_at_call 15; refine HC.out.mono ?_; rintro e w3 ⟨rfl, hA3⟩; have H3 := hid hA3; clear hA3)
    clear c0 c1 c2 c3
    have HB3 := hid (box_adds HB1.out H3.out)
    go_wp2_with (refine wpList_store_row rfl 28 _ _ rfl N1 #[.bool false, .slice .none 0 0, .slice .none 0 0, .slice .none 0 0] rfl rfl 28 _ HB3.out (info4 _ _ _ _) rfl (one4 _ _ _ _ _ _ _ _ _ _) ?_)
    refine bodyPost_ret (results_n2 rfl _ _ N1 _ rfl (setRow_heap w3 N1 _ _ 28 _ HB3.out) rfl) rfl ?_
    rw [HE.out]
    exact ptnode_end (z := NM.none) rfl rfl (NOwn.none _ _) (HA2.out.trans H3.out) HB3.out HL.out _
  | true =>
    by_cases hin : i < 0 ∨ (kn : Int) < i
    · have HE := hid (show N.insert x.nd i key val kid = (N.nil, 40) by unfold N.insert; rw [← HR.out, if_neg (by decide), if_pos (by rw [show x.nd.keys.length = kn from HKn.out.symm]; exact hin)])
      by_cases h0 : i < 0
      · clear hin
        go_upto_region 4 with (go_at_call 15; refine HC.out.mono ?_; rintro e w3 ⟨rfl, hA3⟩; have H3 := hid hA3; clear hA3)
        clear c0 c1 c2 c3
        have HB3 := hid (box_adds HB1.out H3.out)
        go_wp2_with (refine wpList_store_row rfl 28 _ _ rfl N1 #[.bool false, .slice .none 0 0, .slice .none 0 0, .slice .none 0 0] rfl rfl 28 _ HB3.out (info4 _ _ _ _) rfl (one4 _ _ _ _ _ _ _ _ _ _) ?_)
        refine bodyPost_ret (results_n2 rfl _ _ N1 _ rfl (setRow_heap w3 N1 _ _ 28 _ HB3.out) rfl) rfl ?_
        rw [HE.out]
        exact ptnode_end (z := NM.none) rfl rfl (NOwn.none _ _) (HA2.out.trans H3.out) HB3.out HL.out _
      · have h1 : (kn : Int) < i := hin.resolve_left h0
        clear hin
        go_upto_region 4 with (go_at_call 15; refine HC.out.mono ?_; rintro e w3 ⟨rfl, hA3⟩; have H3 := hid hA3; have q1 := (box_cells (box_adds HB0.out hA3)).2.1; clear hA3)
        clear c0 c1 c2 c3 q1
        have HB3 := hid (box_adds HB1.out H3.out)
        go_wp2_with (refine wpList_store_row rfl 28 _ _ rfl N1 #[.bool false, .slice .none 0 0, .slice .none 0 0, .slice .none 0 0] rfl rfl 28 _ HB3.out (info4 _ _ _ _) rfl (one4 _ _ _ _ _ _ _ _ _ _) ?_)
        refine bodyPost_ret (results_n2 rfl _ _ N1 _ rfl (setRow_heap w3 N1 _ _ 28 _ HB3.out) rfl) rfl ?_
        rw [HE.out]
        exact ptnode_end (z := NM.none) rfl rfl (NOwn.none _ _) (HA2.out.trans H3.out) HB3.out HL.out _
    · obtain ⟨k, rfl⟩ : ∃ k : Nat, i = (k : Int) := ⟨i.toNat, by omega⟩
      have hlt : k ≤ kn := by omega
      have h0 : ¬ (k : Int) < 0 := by omega
      have h1 : ¬ (kn : Int) < (k : Int) := by omega
      obtain ⟨nd, hnd⟩ : ∃ nd, nd = N.change x.nd k k ⟨false, [key], [val], [kid]⟩ := ⟨_, rfl⟩
      have HE := hid (show N.insert x.nd (k : Int) key val kid = N.told nd by
        unfold N.insert
        rw [← HR.out, if_neg (by decide), if_neg (by rw [show x.nd.keys.length = kn from HKn.out.symm]; exact hin), Int.toNat_natCast, hnd])
      have HCh := hid (fun (w3 : World) (hA : Adds w w3) => show Calls Try.prog 55 #[.agg #[.bool x.leaf, .slice x.ka kn x.kc, .slice x.v.a x.v.l.length x.v.cap, .slice x.ia x.is.length x.ic], .int .i64 (k : Int), .int .i64 (k : Int), .agg #[.bool false, .slice (some ⟨w3.heap.size, 0, none⟩) 1 1, .slice (some ⟨w3.heap.size + 1, 0, none⟩) 1 1, .slice (some ⟨w3.heap.size + 2, 0, none⟩) 1 1]] (((w3.alloc (.cells #[.string ⟨key.toArray⟩] 9)).alloc (.cells #[.slice a vn cap] 30)).alloc (.cells #[.int .i64 kid] 3)) (PNode _ nd) by
        obtain ⟨q0, q1, q2⟩ := three_new w3 (.string ⟨key.toArray⟩) (.slice a vn cap) (.int .i64 kid) 9 30 3
        have hA' : Adds w (((w3.alloc (.cells #[.string ⟨key.toArray⟩] 9)).alloc (.cells #[.slice a vn cap] 30)).alloc (.cells #[.int .i64 kid] 3)) := ((hA.alloc _).alloc _).alloc _
        have hy := nq_one HVn.out q0 q1 q2 (HVa.out.adds hA')
        rw [hnd, ← HV.out]
        exact nchange_any x ⟨false, some ⟨w3.heap.size, 0, none⟩, 1, [key], ⟨some ⟨w3.heap.size + 1, 0, none⟩, 1, [⟨a, val, cap⟩]⟩, some ⟨w3.heap.size + 2, 0, none⟩, 1, [kid]⟩ k k _ (HX.out.adds hA') HSx.out hy
          ⟨by simp, by simp, by simp, fun b hb => (by rw [List.mem_singleton.1 hb]; exact HKl.out), fun b hb => (by rw [List.mem_singleton.1 hb, ← HVn.out]; exact hvl)⟩ (by rw [← HKn.out]; exact hlt) (by rw [← HKn.out]; exact hlt) (right_len HR.out.symm).1 (right_len HR.out.symm).2)
      have HBn := hid (show N.Bd 1000 nd by
        rw [hnd]
        exact (HBd.out.change (m' := 1) (y := ⟨false, [key], [val], [kid]⟩) ⟨by simp, by simp, by simp, fun b hb => (by rw [List.mem_singleton.1 hb]; exact HKl.out), fun b hb => (by rw [List.mem_singleton.1 hb, ← HVn.out]; exact hvl)⟩ (Nat.le_refl k)).mono (by decide))
      clear hnd hin
      go_upto_region 5 with (go_at_call 15; refine HC.out.mono ?_; rintro e w3 ⟨rfl, hA3⟩; have H3 := hid hA3; obtain ⟨q0, q1, q2, q3⟩ := box_cells (box_adds HB0.out hA3); clear hA3)
      clear c0 c1 c2 c3
      go_wp2_with (first
        | (go_at_call 55; refine (HCh.out w3 (HA2.out.trans H3.out)).mono ?_; rintro e w4 hp; obtain ⟨leaf, ka, kc, ks, va, vc, hs, ia, ic, zs, rfl, H4⟩ := hp.op; clear hp; have HA4 := hid ((((H3.out.alloc _).alloc _).alloc _).trans H4.out.2.2); have HWh := hid (whole_made (w1 := w) H4.out.1 H4.out.2.1 HBn.out (((((HA2.out.trans H3.out).alloc _).alloc _).alloc _).size)))
        | (go_at_call 50; refine HWh.out.mono ?_; rintro e w5 ⟨leaf5, ka5, kc5, ks5, va5, vc5, hs5, ia5, ic5, zs5, rfl, H5⟩; have HB5 := hid (box_adds HB1.out (HA4.out.trans H5.out.2.2)))
        | (refine wpList_store_row rfl 28 _ _ rfl N1 #[.bool leaf5, .slice ka5 ks5.length kc5, .slice va5 hs5.length vc5, .slice ia5 zs5.length ic5] rfl rfl 28 _ HB5.out (info4 _ _ _ _) rfl (one4 _ _ _ _ _ _ _ _ _ _) ?_))
      refine bodyPost_ret (results_n2 rfl _ _ N1 _ rfl (setRow_heap w5 N1 _ _ 28 _ HB5.out) rfl) rfl ?_
      rw [HE.out]
      exact ptnode_end (z := ⟨leaf5, ka5, kc5, ks5, ⟨va5, vc5, hs5⟩, ia5, ic5, zs5⟩) H5.out.1 rfl H5.out.2.1 ((HA2.out.trans HA4.out).trans H5.out.2.2) HB5.out HL.out _
end Go.Proofs.Ytplppnngmlljnaa

/- The chapter's example. -/
namespace Go.Proofs.Ytplppnngmlljnaa
open Go.RowKit

/-- The example's leaf. -/
def N.ex : N.Nd := ⟨true, [[97]], [[120, 121]], []⟩
theorem ex_right : N.right N.ex = true := by decide
theorem ex_taken : N.taken N.ex = 7 := by decide
theorem ex_findI : N.findI N.ex [98] = 1 := by decide
theorem ex_findB : N.findB N.ex [98] = false := by decide
theorem ex_bytesE : N.bytesE 3 N.ex = 0 := (N.bytes_is ex_right (by rw [ex_taken]; decide) (by decide)).2
theorem ex_parse : N.parse (N.bytesP 3 N.ex) = (N.ex, 0) := N.parse_put ex_right (by rw [ex_taken]; decide) (by decide)
theorem ex_len : (N.bytesP 3 N.ex).length = 256 := by
  have h := N.page_ok (no := 3) ex_right (by rw [ex_taken]; decide) (by decide)
  rw [(N.bytes_is ex_right (by rw [ex_taken]; decide) (by decide)).1]
  exact M.len_pbytes h.room
/-- The example in its memory. -/
def exM (K B V : Nat) : NM := ⟨true, some ⟨K, 0, none⟩, 1, [[97]], ⟨some ⟨V, 0, none⟩, 1, [⟨some ⟨B, 0, none⟩, [120, 121], 2⟩]⟩, none, 0, []⟩
theorem exM_nd (K B V : Nat) : (exM K B V).nd = N.ex := rfl
theorem exM_ns (K B V : Nat) : NS (exM K B V) := ⟨show 1 ≤ 1000 by decide, show 1 ≤ 1000 by decide, show 0 ≤ 1000 by decide, fun b hb => by rw [List.mem_singleton.1 hb]; decide, fun b hb => by rw [List.mem_singleton.1 hb]; show ([120, 121] : List UInt8).length ≤ 1000; decide⟩
theorem exM_nq {w : World} {K B V : Nat} {fr : Nat × Nat} (hk : w.heap[K]? = some (.cells #[Str [97]] 9)) (hb : w.heap[B]? = some (.cells #[.int .u8 120, .int .u8 121] 5 fr)) (hv : w.heap[V]? = some (.cells #[.slice (some ⟨B, 0, none⟩) 2 2] 30)) : NQ w (fun _ => True) (exM K B V) := by
  refine ⟨cq_one (cellOf hk 0), fun e => (by cases e), Nat.le_refl _, ⟨cq_one (cellOf hv 0), fun e => (by cases e), fun p hp => ?_⟩, Nat.le_refl _, CQ.nil _ _ _, fun _ => rfl, Nat.le_refl _⟩
  rw [List.mem_singleton.1 hp]
  refine ⟨fun j u hj => ?_, fun e => (by cases e)⟩
  match j, hj with
  | 0, hj => exact ⟨B, 0, rfl, trivial, by rw [cellOf hb]; exact hj⟩
  | 1, hj => exact ⟨B, 0, rfl, trivial, by rw [cellOf hb]; exact hj⟩
theorem ex_bd : N.Bd 900 N.ex := ⟨by decide, by decide, by decide, by decide, by decide⟩
theorem rng_of {w : World} {N : Nat} {cs : List Value} {t : TypeId} {fr : Nat × Nat} (hb : w.heap[N]? = some (.cells cs.toArray t fr)) : w.rangeAt N 0 cs := fun j v hv => by
  rw [cellOf hb]
  simpa using hv
/-- A node that is told, its parts by name. -/
def PTnd (w : World) (n : N.Nd) (er : Int) (e : Ending) (w' : World) : Prop := ∃ (l : Bool) (ka : Option Addr) (kc : Nat) (ks : List (List UInt8)) (g : Pl) (ia : Option Addr) (ic : Nat) (is : List Int), e = .returned (.tuple #[.agg #[.bool l, .slice ka ks.length kc, .slice g.a g.l.length g.cap, .slice ia is.length ic], .int .i64 er]) ∧ Hid ((⟨l, ka, kc, ks, g, ia, ic, is⟩ : NM).nd = n ∧ NOwn w' w.heap.size ⟨l, ka, kc, ks, g, ia, ic, is⟩ ∧ Adds w w')
theorem PTnode.nd {f : Nat} {args : Array Value} {w : World} {R : N.Nd × Nat} {n : N.Nd} {er : Nat} (h : Calls Try.prog f args w (PTnode w R)) (hR : R = (n, er)) : Calls Try.prog f args w (PTnd w n (er : Int)) := by
  subst hR
  refine h.mono ?_
  rintro e w' ⟨z, rfl, H⟩
  obtain ⟨l, ka, kc, ks, g, ia, ic, is⟩ := z
  exact ⟨l, ka, kc, ks, g, ia, ic, is, rfl, H⟩
/-- A page that is told, its length by name. -/
def PPg (w : World) (bs : List UInt8) (n : Nat) (er : Int) (e : Ending) (w' : World) : Prop := ∃ a cap, e = .returned (.tuple #[.slice a n cap, .int .i64 er]) ∧ Hid (At w' a bs ∧ n ≤ cap ∧ Adds w w')
theorem PTold.pg {f : Nat} {args : Array Value} {w : World} {bs : List UInt8} {er n : Nat} (h : Calls Try.prog f args w (PTold w bs er)) (hn : bs.length = n) : Calls Try.prog f args w (PPg w bs n (er : Int)) := by
  subst hn
  refine h.mono ?_
  rintro e w' ⟨a, cap, rfl, H⟩
  exact ⟨a, cap, rfl, H.out.1, H.out.2.1, H.out.2.2.2⟩
set_option maxRecDepth 100000 in
set_option maxHeartbeats 4000000 in
theorem works14 (w : World) : Calls Try.prog 21 #[] w (Adding (.bool true) w) := by
  have hz : (w.alloc (.cells #[.string ⟨#[97]⟩] 9)).heap.size = w.heap.size + 1 := by simp
  have hcc := Lib.run_convert_bytes_const (P := Try.prog) (w.alloc (.cells #[.string ⟨#[97]⟩] 9)) 30 5 #[.int .u8 120, .int .u8 121] 2 2 Try.underlying30 Try.underlying5
  rw [hz] at hcc
  go_enter Try.func21, Try.ntmps21
  go_upto_region 2 with (refine wpList_store_row rfl 28 _ _ rfl _ #[.bool true, .slice (some ⟨_, 0, none⟩) 1 1, .slice (some ⟨_, 0, none⟩) 1 1, .slice none 0 0] rfl rfl 28 _ (heap_alloc_new _ _) (info4 _ _ _ _) rfl (one4 _ _ _ _ _ _ _ _ _ _) ?_)
  obtain ⟨N0, hN0⟩ : ∃ N0, N0 = w.heap.size := ⟨_, rfl⟩
  rw [← hN0]
  obtain ⟨w4, hw4⟩ : ∃ w4, w4 = (((w.alloc (.cells #[.string ⟨#[97]⟩] 9)).alloc (.cells #[.int .u8 120, .int .u8 121] 5 (2, 3))).alloc (.cells #[.slice (some ⟨N0 + 1, 0, none⟩) 2 2] 30)).alloc (.cells #[.bool true, .slice (some ⟨N0, 0, none⟩) 1 1, .slice (some ⟨N0 + 1 + 1, 0, none⟩) 1 1, .slice none 0 0] 28) := ⟨_, rfl⟩
  rw [← hw4]
  have e2 : ((w.alloc (.cells #[.string ⟨#[97]⟩] 9)).alloc (.cells #[.int .u8 120, .int .u8 121] 5 (2, 3))).heap.size = N0 + 1 + 1 := by rw [hN0]; simp
  have e3 : (((w.alloc (.cells #[.string ⟨#[97]⟩] 9)).alloc (.cells #[.int .u8 120, .int .u8 121] 5 (2, 3))).alloc (.cells #[.slice (some ⟨N0 + 1, 0, none⟩) 2 2] 30)).heap.size = N0 + 1 + 1 + 1 := by rw [hN0]; simp
  have HA4 := hid (show Adds w w4 by rw [hw4]; exact ((((Touch.refl _ w).alloc _).alloc _).alloc _).alloc _)
  have HK := hid (show w4.heap[N0]? = some (.cells #[Str [97]] 9) by rw [hw4, hN0]; exact box_adds (heap_alloc_new w _) (((Touch.refl _ _).alloc _).alloc _ |>.alloc _))
  have HB := hid (show w4.heap[N0 + 1]? = some (.cells #[.int .u8 120, .int .u8 121] 5 (2, 3)) by rw [hw4, hN0, ← hz]; exact box_adds (heap_alloc_new _ _) (((Touch.refl _ _).alloc _).alloc _))
  have HV := hid (show w4.heap[N0 + 1 + 1]? = some (.cells #[.slice (some ⟨N0 + 1, 0, none⟩) 2 2] 30) by rw [hw4, ← e2]; exact box_adds (heap_alloc_new _ _) ((Touch.refl _ _).alloc _))
  have HX := hid (show w4.heap[N0 + 1 + 1 + 1]? = some (.cells #[.bool true, .slice (some ⟨N0, 0, none⟩) 1 1, .slice (some ⟨N0 + 1 + 1, 0, none⟩) 1 1, .slice none 0 0] 28) by rw [hw4, ← e3]; exact heap_alloc_new _ _)
  have HQ := hid (exM_nq HK.out HB.out HV.out)
  clear hw4 e2 e3 hz hcc
  obtain ⟨N3, hN3⟩ : ∃ N3, N3 = N0 + 1 + 1 + 1 := ⟨_, rfl⟩
  rw [← hN3] at HX ⊢
  clear hN3
  obtain ⟨V, hV⟩ : ∃ V, V = N0 + 1 + 1 := ⟨_, rfl⟩
  rw [← hV] at HX HQ ⊢
  clear hV HK HB HV hN0
  have HS := exM_ns N0 (N0 + 1) V
  have HF := hid (fun w' (hA : Adds w4 w') => show Calls Try.prog 13 #[.agg #[.bool true, .slice (some ⟨N0, 0, none⟩) 1 1, .slice (some ⟨V, 0, none⟩) 1 1, .slice none 0 0], .string ⟨#[98]⟩] w' (Adding (.tuple #[.int .i64 1, .bool false]) w') by
    have q := nfind_any _ [98] w' (HQ.out.adds hA) HS
    rw [exM_nd, ex_findI, ex_findB] at q
    exact q)
  have HBy := hid (fun w' (hA : Adds w4 w') => show Calls Try.prog 11 #[.int .i64 3, .agg #[.bool true, .slice (some ⟨N0, 0, none⟩) 1 1, .slice (some ⟨V, 0, none⟩) 1 1, .slice none 0 0]] w' (PPg w' (N.bytesP 3 N.ex) 256 0) by
    have q := nbytes_any _ 3 w' (HQ.out.adds hA) HS
    rw [exM_nd, ex_bytesE] at q
    exact PTold.pg q ex_len)
  have HR := hid (fun w' (hA : Adds w4 w') => show Calls Try.prog 15 #[.agg #[.bool true, .slice (some ⟨N0, 0, none⟩) 1 1, .slice (some ⟨V, 0, none⟩) 1 1, .slice none 0 0]] w' (Adding (.bool true) w') by
    have q := nright_any _ w' (HQ.out.adds hA) HS
    rw [exM_nd, ex_right] at q
    exact q)
  have HT := hid (fun w' (hA : Adds w4 w') => show Calls Try.prog 17 #[.agg #[.bool true, .slice (some ⟨N0, 0, none⟩) 1 1, .slice (some ⟨V, 0, none⟩) 1 1, .slice none 0 0]] w' (Adding (.int .i64 7) w') by
    have q := ntaken_any _ w' (HQ.out.adds hA) HS
    rw [exM_nd, ex_taken] at q
    exact q)
  have HFi := hid (fun w' (hA : Adds w4 w') => show Calls Try.prog 19 #[.agg #[.bool true, .slice (some ⟨N0, 0, none⟩) 1 1, .slice (some ⟨V, 0, none⟩) 1 1, .slice none 0 0]] w' (Adding (.bool true) w') by
    have q := nfits_any _ w' (HQ.out.adds hA) HS
    rw [exM_nd, ex_right, ex_taken] at q
    exact q)
  have HPa := hid (fun (w' : World) (a : Option Addr) (cap : Nat) (hc : 256 ≤ cap) (hA : At w' a (N.bytesP 3 N.ex)) => show Calls Try.prog 22 #[.slice a 256 cap] w' (PTnd w' N.ex 0) from PTnode.nd (nparse_any a (N.bytesP 3 N.ex) 256 cap w' ex_len hc hA) ex_parse)
  obtain ⟨bs, hbs⟩ : ∃ bs, bs = N.bytesP 3 N.ex := ⟨_, rfl⟩
  rw [← hbs] at HBy HPa
  clear hbs
  have HSm := hid (fun (w' w0 : World) (l : Bool) (ka : Option Addr) (kc : Nat) (ks : List (List UInt8)) (g : Pl) (ia : Option Addr) (ic : Nat) (is : List Int) (hA : Adds w4 w') (hz : (⟨l, ka, kc, ks, g, ia, ic, is⟩ : NM).nd = N.ex) (ho : NOwn w' w0.heap.size ⟨l, ka, kc, ks, g, ia, ic, is⟩) => show Calls Try.prog 20 #[.agg #[.bool l, .slice ka ks.length kc, .slice g.a g.l.length g.cap, .slice ia is.length ic], .agg #[.bool true, .slice (some ⟨N0, 0, none⟩) 1 1, .slice (some ⟨V, 0, none⟩) 1 1, .slice none 0 0]] w' (Adding (.bool true) w') by
    have q := same_any ⟨l, ka, kc, ks, g, ia, ic, is⟩ _ w' ho.nq (HQ.out.adds hA) (N.Bd.ns (m := 900) (by rw [hz]; exact ex_bd) (by decide)) HS
    rw [exM_nd, hz, N.same_refl] at q
    exact q)
  clear HQ HS
  go_upto_region 3 with (first
    | (refine wpList_load_row rfl 28 _ rfl N3 rfl 28 _ _ _ HX.out Try.underlying28 rfl (info4 _ _ _ _) ?_)
    | (go_at_call 13; refine (HF.out w4 (Touch.refl _ _)).mono ?_; rintro e w5 ⟨rfl, hA5⟩; have A5 := hid hA5; clear hA5))
  have X5 := hid (box_adds HX.out A5.out)
  clear HF
  go_upto_region 4 with (first
    | (refine wpList_load_row rfl 28 _ rfl N3 rfl 28 _ _ _ X5.out Try.underlying28 rfl (info4 _ _ _ _) ?_)
    | (go_at_call 11; refine (HBy.out w5 A5.out).mono ?_; rintro e w6 ⟨a, cap, rfl, H6⟩))
  have A6 := hid (A5.out.trans H6.out.2.2)
  clear HBy
  go_upto_region 5 with (first
    | (go_at_call 22; refine (HPa.out w6 a cap H6.out.2.1 H6.out.1).mono ?_; rintro e w7 ⟨l, ka, kc, ks, g, ia, ic, is, rfl, H7⟩)
    | (refine wpList_store_row rfl 28 _ _ rfl _ #[.bool l, .slice ka ks.length kc, .slice g.a g.l.length g.cap, .slice ia is.length ic] rfl rfl 28 _ (heap_alloc_new _ _) (info4 _ _ _ _) rfl (one4 _ _ _ _ _ _ _ _ _ _) ?_))
  obtain ⟨N6, hN6⟩ : ∃ N6, N6 = w7.heap.size := ⟨_, rfl⟩
  rw [← hN6]
  obtain ⟨w8, hw8⟩ : ∃ w8, w8 = (w7.alloc NZ).setRow N6 #[.bool l, .slice ka ks.length kc, .slice g.a g.l.length g.cap, .slice ia is.length ic] := ⟨_, rfl⟩
  have hA78 : Adds w7 w8 := by rw [hw8, hN6]; exact Touch.setRow (T := fun _ => False) ((Touch.refl _ _).alloc _) (fun c => absurd c (by omega)) _
  have Y8 := hid (show w8.heap[N6]? = some (.cells #[.bool l, .slice ka ks.length kc, .slice g.a g.l.length g.cap, .slice ia is.length ic] 28) by rw [hw8, hN6]; exact setRow_heap _ _ _ _ 28 _ (heap_alloc_new w7 NZ))
  rw [← hw8]
  clear hw8 hN6
  have HO := hid (H7.out.2.1.adds hA78)
  have A8 := hid (A6.out.trans (H7.out.2.2.trans hA78))
  have X8 := hid (box_adds HX.out A8.out)
  clear hA78
  go_wp2_with (first
    | (refine wpList_load_row rfl 28 _ rfl N3 rfl 28 _ _ _ X8.out Try.underlying28 rfl (info4 _ _ _ _) ?_)
    | (refine wpList_load_g (by rfl) 28 _ rfl N3 0 rfl [.bool true, .slice (some ⟨N0, 0, none⟩) 1 1, .slice (some ⟨V, 0, none⟩) 1 1, .slice none 0 0] _ (rng_of (box_adds X8.out A11.out)) Try.underlying28 rfl infoN.out ?_)
    | (refine wpList_load_g (by rfl) 28 _ rfl N3 0 rfl [.bool true, .slice (some ⟨N0, 0, none⟩) 1 1, .slice (some ⟨V, 0, none⟩) 1 1, .slice none 0 0] _ (rng_of (box_adds X8.out A10.out)) Try.underlying28 rfl infoN.out ?_)
    | (refine wpList_load_g (by rfl) 28 _ rfl N3 0 rfl [.bool true, .slice (some ⟨N0, 0, none⟩) 1 1, .slice (some ⟨V, 0, none⟩) 1 1, .slice none 0 0] _ (rng_of (box_adds X8.out A9.out)) Try.underlying28 rfl infoN.out ?_)
    | (refine wpList_load_g (by rfl) 28 _ rfl N6 0 rfl [.bool l, .slice ka ks.length kc, .slice g.a g.l.length g.cap, .slice ia is.length ic] _ (rng_of (box_adds Y8.out A11.out)) Try.underlying28 rfl infoN.out ?_)
    | (go_at_call 15; refine (HR.out w8 A8.out).mono ?_; rintro e w9 ⟨rfl, hA9⟩; have A9 := hid hA9; clear hA9)
    | (go_at_call 17; refine (HT.out w9 (A8.out.trans A9.out)).mono ?_; rintro e w10 ⟨rfl, hA10⟩; have A10 := hid (A9.out.trans hA10); clear hA10)
    | (go_at_call 19; refine (HFi.out w10 (A8.out.trans A10.out)).mono ?_; rintro e w11 ⟨rfl, hA11⟩; have A11 := hid (A10.out.trans hA11); clear hA11)
    | (go_at_call 20; refine (HSm.out w11 w6 l ka kc ks g ia ic is (A8.out.trans A11.out) H7.out.1 (HO.out.adds A11.out)).mono ?_; rintro e w12 ⟨rfl, hA12⟩; have A12 := hid (A11.out.trans hA12); clear hA12))
  go_ret
  exact ⟨rfl, HA4.out.trans (A8.out.trans A12.out)⟩
end Go.Proofs.Ytplppnngmlljnaa

/- NodeBack. -/
namespace Go.Proofs.Ytplppnngmlljnaa
open Go.RowKit

theorem infoRN : Hid ((Try.prog.info? 26).map (·.size) = some 4) := show (Try.prog.info? 26).map (·.size) = some 4 by kernel_rfl
theorem infoR4 (a b c d : Value) : (Try.prog.info? 26).map (·.size) = some (#[a, b, c, d] : Array Value).size := infoRN.out
def PNd (w : World) (n : N.Nd) (e : Ending) (w' : World) : Prop := ∃ (l : Bool) (ka : Option Addr) (kc : Nat) (ks : List (List UInt8)) (g : Pl) (ia : Option Addr) (ic : Nat) (is : List Int), e = .returned (.agg #[.bool l, .slice ka ks.length kc, .slice g.a g.l.length g.cap, .slice ia is.length ic]) ∧ Hid ((⟨l, ka, kc, ks, g, ia, ic, is⟩ : NM).nd = n ∧ NOwn w' w.heap.size ⟨l, ka, kc, ks, g, ia, ic, is⟩ ∧ Adds w w')
theorem PNode.nd {f : Nat} {args : Array Value} {w : World} {n : N.Nd} (h : Calls Try.prog f args w (PNode w n)) : Calls Try.prog f args w (PNd w n) := by
  refine h.mono ?_
  rintro e w' ⟨z, rfl, H⟩
  obtain ⟨l, ka, kc, ks, g, ia, ic, is⟩ := z
  exact ⟨l, ka, kc, ks, g, ia, ic, is, rfl, H⟩
/-- A node that was told, put into a block. -/
theorem boxed {w w1 w7 w8 : World} {N6 : Nat} {l : Bool} {ka : Option Addr} {kc : Nat} {ks : List (List UInt8)} {g : Pl} {ia : Option Addr} {ic : Nat} {is : List Int} {n : N.Nd} (h : (⟨l, ka, kc, ks, g, ia, ic, is⟩ : NM).nd = n ∧ NOwn w7 w.heap.size ⟨l, ka, kc, ks, g, ia, ic, is⟩ ∧ Adds w1 w7) (hN : N6 = w7.heap.size) (hw : w8 = (w7.alloc NZ).setRow N6 #[.bool l, .slice ka ks.length kc, .slice g.a g.l.length g.cap, .slice ia is.length ic]) :
    NOwn w8 w.heap.size ⟨l, ka, kc, ks, g, ia, ic, is⟩ ∧ w8.heap[N6]? = some (.cells #[.bool l, .slice ka ks.length kc, .slice g.a g.l.length g.cap, .slice ia is.length ic] 28) ∧ Adds w1 w8 := by
  have hA : Adds w7 w8 := by rw [hw, hN]; exact Touch.setRow (T := fun _ => False) ((Touch.refl _ _).alloc _) (fun c => absurd c (by omega)) _
  exact ⟨h.2.1.adds hA, by rw [hw, hN]; exact setRow_heap _ _ _ _ 28 _ (heap_alloc_new w7 NZ), h.2.2.trans hA⟩
end Go.Proofs.Ytplppnngmlljnaa

/- A key's place: a cell that is put there, found, and taken out again. -/
namespace Go.Proofs.Ytplppnngmlljnaa
open Go.RowKit
namespace N
theorem keysOk_of {ks : List (List UInt8)} (h1 : ∀ i, i < ks.length → (ks.getD i []).length ≤ 40) (h2 : ∀ i, i + 1 < ks.length → lt (ks.getD i []) (ks.getD (i + 1) []) = true) : keysOk ks = true := keysOk_yes fun j hj => by
  unfold badAt
  rw [decide_eq_false (by have := h1 j hj; omega)]
  cases j with
  | zero => rfl
  | succ j => rw [show j + 1 - 1 = j from rfl, h2 j hj]; simp
theorem lb_spec (ks : List (List UInt8)) (key : List UInt8) : (∀ t, t < lb ks key → lt (ks.getD t []) key = true) ∧ (lb ks key < ks.length → lt (ks.getD (lb ks key) []) key = false) := by
  unfold lb
  induction ks with
  | nil => exact ⟨fun t h => absurd h (by simp), fun h => absurd h (by simp)⟩
  | cons k l ih =>
    cases hk : lt k key with
    | false =>
      rw [List.takeWhile_cons, hk]
      exact ⟨fun t h => absurd h (by simp), fun _ => hk⟩
    | true =>
      rw [List.takeWhile_cons, if_pos hk, List.length_cons]
      refine ⟨fun t h => ?_, fun h => ?_⟩
      · cases t with
        | zero => exact hk
        | succ t => exact ih.1 t (by omega)
      · exact ih.2 (by simpa using h)
theorem ins_get (ks : List (List UInt8)) (key : List UInt8) (m t : Nat) (hm : m ≤ ks.length) : (ks.take m ++ ([key] ++ ks.drop m)).getD t [] = if t < m then ks.getD t [] else if t = m then key else ks.getD (t - 1) [] := by
  have hl : (ks.take m).length = m := by rw [List.length_take]; omega
  rw [List.getD_eq_getElem?_getD]
  by_cases h1 : t < m
  · rw [if_pos h1, List.getElem?_append_left (by omega), List.getElem?_take, if_pos h1, List.getD_eq_getElem?_getD]
  · rw [if_neg h1, List.getElem?_append_right (by omega), hl]
    by_cases h2 : t = m
    · rw [if_pos h2, h2, Nat.sub_self]; rfl
    · rw [if_neg h2]
      obtain ⟨s, hs⟩ : ∃ s, t - m = s + 1 := ⟨t - m - 1, by omega⟩
      rw [hs]
      show ((key :: ks.drop m)[s + 1]?).getD [] = _
      rw [List.getElem?_cons_succ, List.getElem?_drop, show m + s = t - 1 by omega, List.getD_eq_getElem?_getD]
theorem ins_len {α : Type} (l : List α) (x : α) (m : Nat) (hm : m ≤ l.length) : (l.take m ++ ([x] ++ l.drop m)).length = l.length + 1 := by
  rw [List.length_append, List.length_append, List.length_take, List.length_drop, List.length_singleton]; omega
theorem cut_back {α : Type} (l : List α) (x : α) (m : Nat) (hm : m ≤ l.length) : (l.take m ++ ([x] ++ l.drop m)).take m ++ ([] ++ (l.take m ++ ([x] ++ l.drop m)).drop (m + 1)) = l := by
  have hl : (l.take m).length = m := by rw [List.length_take]; omega
  rw [List.take_left' hl, ← List.append_assoc (l.take m) [x], List.drop_left' (by rw [List.length_append, hl]; rfl), List.nil_append, List.take_append_drop]
theorem ins_all {α : Type} {P : α → Bool} {l : List α} {x : α} {m : Nat} (h : l.all P = true) (hx : P x = true) : (l.take m ++ ([x] ++ l.drop m)).all P = true := by
  rw [List.all_eq_true] at h ⊢
  exact bd_mem (P := fun y => P y = true) h (fun y hy => by rw [List.mem_singleton.1 hy]; exact hx)
/-- The keys still rise. -/
theorem ins_rise {ks : List (List UInt8)} {key : List UInt8} (h : keysOk ks = true) (hk : key.length ≤ 40) (hlen : ∀ i, i < ks.length → (ks.getD i []).length ≤ 40) (ha : isAt ks key = false) : keysOk (ks.take (lb ks key) ++ ([key] ++ ks.drop (lb ks key))) = true := by
  obtain ⟨s1, s2⟩ := lb_spec ks key
  have hm := lb_le ks key
  obtain ⟨m, hmm⟩ : ∃ m, m = lb ks key := ⟨_, rfl⟩
  rw [isAt_eq] at ha
  rw [← hmm] at s1 s2 hm ha ⊢
  have hL := ins_len ks key m hm
  refine keysOk_of (fun i hi => ?_) (fun i hi => ?_)
  · rw [hL] at hi
    rw [ins_get ks key m i hm]
    split
    · exact hlen i (by omega)
    · split
      · exact hk
      · exact hlen (i - 1) (by omega)
  · rw [hL] at hi
    rw [ins_get ks key m i hm, ins_get ks key m (i + 1) hm]
    by_cases c1 : i + 1 < m
    · rw [if_pos (by omega), if_pos c1]
      exact rise_next h (by omega)
    · by_cases c2 : i + 1 = m
      · rw [if_pos (by omega), if_neg c1, if_pos c2]
        exact s1 i (by omega)
      · by_cases c3 : i = m
        · rw [if_neg (by omega), if_pos c3, if_neg c1, if_neg c2, Nat.add_sub_cancel, c3]
          have e := s2 (by omega)
          rw [decide_eq_true (show m < ks.length by omega), Bool.true_and] at ha
          have q := lt_total key (ks.getD m [])
          rw [e] at q
          have hne : (key == ks.getD m []) = false := by
            rw [beq_eq_false_iff_ne] at ha ⊢
            exact fun c => ha c.symm
          rw [hne, Bool.or_false] at q
          exact q
        · rw [if_neg (by omega), if_neg c3, if_neg c1, if_neg c2]
          have q := rise_next h (i := i - 1) (by omega)
          rw [show i - 1 + 1 = i by omega] at q
          rw [Nat.add_sub_cancel]
          exact q
/-- An inner node's place is never the first. -/
theorem lb_pos {n : Nd} (h : right n = true) (hl : n.leaf = false) {key : List UInt8} (ha : isAt n.keys key = false) : 0 < lb n.keys key := by
  rcases (right_parts h).2 with ⟨q0, _⟩ | ⟨_, _, _, _, q4, q5⟩
  · rw [hl] at q0; cases q0
  · rcases Nat.eq_zero_or_pos (lb n.keys key) with c | c
    · have s2 := (lb_spec n.keys key).2 (by omega)
      rw [isAt_eq, c, decide_eq_true q4, q5, Bool.true_and] at ha
      rw [c, q5] at s2
      cases key with
      | nil => exact absurd ha (by decide)
      | cons b y => cases s2
    · exact c
/-- The node with a cell more. -/
def more (n : Nd) (key val : List UInt8) : Nd := change n (lb n.keys key) (lb n.keys key) ⟨false, [key], [val], [7]⟩
theorem more_right {n : Nd} {key val : List UInt8} (h : right n = true) (hk : key.length ≤ 40) (hv : val.length ≤ 49) (ha : isAt n.keys key = false) : right (more n key val) = true := by
  have hK : keysOk (more n key val).keys = true := ins_rise (right_parts h).1 hk (fun i hi => right_key h hi) ha
  have hm := lb_le n.keys key
  have hL := ins_len n.keys key (lb n.keys key) hm
  rcases (right_parts h).2 with ⟨q0, q1, q2, q3⟩ | ⟨q0, q1, q2, q3, q4, q5⟩
  · have e1 : (more n key val).vals = n.vals.take (lb n.keys key) ++ ([val] ++ n.vals.drop (lb n.keys key)) := by unfold more change; rw [q0]; rfl
    have e2 : (more n key val).kids = [] := by unfold more change; rw [q0]; rfl
    rw [right_leaf hK q0, e1, e2, ins_len _ _ _ (by omega), show (more n key val).keys.length = n.keys.length + 1 from hL, q1, decide_eq_true rfl]
    show ((true && true) && valsOk _) = true
    unfold valsOk at q3 ⊢
    rw [ins_all q3 (decide_eq_true hv)]; rfl
  · have e1 : (more n key val).vals = [] := by unfold more change; rw [q0]; rfl
    have e2 : (more n key val).kids = n.kids.take (lb n.keys key) ++ ([7] ++ n.kids.drop (lb n.keys key)) := by unfold more change; rw [q0]; rfl
    have e0 : (more n key val).keys.getD 0 [] = [] := by
      show (n.keys.take _ ++ ([key] ++ n.keys.drop _)).getD 0 [] = []
      rw [ins_get _ _ _ _ hm, if_pos (lb_pos h q0 ha), q5]
    rw [right_inner hK q0, e1, e2, e0, ins_len _ _ _ (by omega), show (more n key val).keys.length = n.keys.length + 1 from hL, q1, decide_eq_true rfl, decide_eq_true (Nat.succ_pos _)]
    show (((true && true) && (true && true)) && kidsOk _) = true
    unfold kidsOk at q3 ⊢
    rw [ins_all q3 (by decide)]; rfl
theorem insert_is {n : Nd} {key val : List UInt8} (h : right n = true) (hk : key.length ≤ 40) (hv : val.length ≤ 49) (ha : isAt n.keys key = false) : insert n (lb n.keys key : Int) key val 7 = (more n key val, 0) := by
  have hm := lb_le n.keys key
  unfold insert
  rw [h, if_neg (by decide), if_neg (by omega)]
  show told (change n ((lb n.keys key : Nat) : Int).toNat ((lb n.keys key : Nat) : Int).toNat _) = _
  rw [Int.toNat_natCast]
  show told (more n key val) = _
  unfold told
  rw [if_pos (more_right h hk hv ha)]
theorem more_lb {n : Nd} {key val : List UInt8} : lb (more n key val).keys key = lb n.keys key ∧ isAt (more n key val).keys key = true := by
  have hm := lb_le n.keys key
  have hL := ins_len n.keys key (lb n.keys key) hm
  have e : lb (more n key val).keys key = lb n.keys key := by
    show lb (n.keys.take _ ++ ([key] ++ n.keys.drop _)) key = _
    refine lb_is _ key _ (by omega) (fun t ht => ?_) (fun _ => ?_)
    · rw [ins_get _ _ _ _ hm, if_pos ht]; exact (lb_spec n.keys key).1 t ht
    · rw [ins_get _ _ _ _ hm, if_neg (Nat.lt_irrefl _), if_pos rfl]; exact lt_irrefl key
  refine ⟨e, ?_⟩
  rw [isAt_eq, e]
  show (decide (lb n.keys key < (n.keys.take _ ++ ([key] ++ n.keys.drop _)).length) && ((n.keys.take _ ++ ([key] ++ n.keys.drop _)).getD (lb n.keys key) [] == key)) = true
  rw [ins_get _ _ _ _ hm, if_neg (Nat.lt_irrefl _), if_pos rfl, hL, decide_eq_true (by omega)]
  simp
theorem first_same {n : Nd} (h : right n = true) : first n = n := by
  unfold first
  rcases (right_parts h).2 with ⟨q0, _⟩ | ⟨q0, _, _, _, q4, q5⟩
  · rw [if_neg (by rw [q0]; exact fun c => by cases c.1)]
  · rw [if_pos ⟨q0, q4⟩]
    obtain ⟨l, ks, vs, zs⟩ := n
    cases ks with
    | nil => cases q4
    | cons k t =>
      have : k = [] := q5
      rw [this]; rfl
theorem remove_is {n : Nd} {key val : List UInt8} (h : right n = true) (hk : key.length ≤ 40) (hv : val.length ≤ 49) (ha : isAt n.keys key = false) : remove (more n key val) (lb n.keys key : Int) = (n, 0) := by
  have hm := lb_le n.keys key
  have hL : (more n key val).keys.length = n.keys.length + 1 := ins_len n.keys key (lb n.keys key) hm
  have e : change (more n key val) (lb n.keys key) (lb n.keys key + 1) nil = n := by
    have c1 := cut_back n.keys key (lb n.keys key) hm
    rcases (right_parts h).2 with ⟨q0, q1, q2, q3⟩ | ⟨q0, q1, q2, q3, q4, q5⟩
    · have c2 := cut_back n.vals val (lb n.keys key) (by omega)
      obtain ⟨l, ks, vs, zs⟩ := n
      have e3 : zs = [] := List.eq_nil_of_length_eq_zero q2
      have e0 : l = true := q0
      subst e0 e3
      unfold more change
      simp only [if_true]
      show (⟨true, _, _, _⟩ : Nd) = _
      rw [show (nil : Nd).keys = [] from rfl, show (nil : Nd).vals = [] from rfl]
      rw [c1, c2]
    · have c2 := cut_back n.kids 7 (lb n.keys key) (by omega)
      obtain ⟨l, ks, vs, zs⟩ := n
      have e3 : vs = [] := List.eq_nil_of_length_eq_zero q2
      have e0 : l = false := q0
      subst e0 e3
      unfold more change
      simp only [Bool.false_eq_true, if_false]
      show (⟨false, _, _, _⟩ : Nd) = _
      rw [show (nil : Nd).keys = [] from rfl, show (nil : Nd).kids = [] from rfl]
      rw [c1, c2]
  unfold remove
  rw [more_right h hk hv ha, if_neg (by decide), if_neg (by rw [hL]; omega)]
  show told (without (more n key val) ((lb n.keys key : Nat) : Int).toNat (((lb n.keys key : Nat) : Int).toNat + 1)) = _
  rw [Int.toNat_natCast]
  unfold without
  rw [e, first_same h]
  unfold told
  rw [if_pos h]
theorem find_more {n : Nd} {key val : List UInt8} (h : right n = true) (hk : key.length ≤ 40) (hv : val.length ≤ 49) (ha : isAt n.keys key = false) : findI (more n key val) key = (lb n.keys key : Int) ∧ findB (more n key val) key = true := by
  obtain ⟨e1, e2⟩ := more_lb (n := n) (key := key) (val := val)
  have hr := more_right h hk hv ha
  unfold findI findB
  rw [hr, if_neg (by decide), e1, e2, if_neg (fun c => by cases c.2)]
  exact ⟨rfl, rfl⟩
theorem find_no {n : Nd} {key : List UInt8} (h : right n = true) (ha : isAt n.keys key = false) : findI n key = (if n.leaf = true then (lb n.keys key : Int) else (lb n.keys key : Int) - 1) ∧ findB n key = false := by
  unfold findI findB
  rw [h, if_neg (by decide), ha]
  refine ⟨?_, rfl⟩
  cases n.leaf with
  | true => rw [if_neg (fun c => by cases c.1), if_pos rfl]
  | false => rw [if_pos ⟨rfl, rfl⟩, if_neg (by decide)]
theorem find_yes {n : Nd} {key : List UInt8} (h : right n = true) (ha : isAt n.keys key = true) : findI n key = (lb n.keys key : Int) ∧ findB n key = true ∧ lb n.keys key < n.keys.length ∧ n.keys.getD (lb n.keys key) [] = key := by
  have hb := ha
  rw [isAt_eq, Bool.and_eq_true, decide_eq_true_eq, beq_iff_eq] at hb
  unfold findI findB
  rw [h, if_neg (by decide), ha, if_neg (fun c => by cases c.2)]
  exact ⟨rfl, rfl, hb.1, hb.2⟩
theorem more_bd {n : Nd} {key val : List UInt8} (h : Bd 200 n) (hk : key.length ≤ 40) (hv : val.length ≤ 49) : Bd 900 (more n key val) := by
  have hy : Bd 1 (⟨false, [key], [val], [7]⟩ : Nd) := ⟨Nat.le_refl _, Nat.le_refl _, Nat.le_refl _, fun b hb => by rw [List.mem_singleton.1 hb]; omega, fun b hb => by rw [List.mem_singleton.1 hb]; omega⟩
  exact (h.change hy (Nat.le_refl _)).mono (by decide)
end N
end Go.Proofs.Ytplppnngmlljnaa

/- NodeFinds. -/
namespace Go.Proofs.Ytplppnngmlljnaa
open Go.RowKit

theorem great_200 {x : NM} (h : N.great x.nd = false) : N.Bd 200 x.nd := by
  obtain ⟨h1, h2, h3, h4, h5⟩ := N.great_is h
  exact ⟨h1, h2, h3, fun b hb => by have := h4 b hb; omega, fun b hb => by have := h5 b hb; omega⟩
set_option maxRecDepth 100000 in
set_option maxHeartbeats 8000000 in
theorem finds14 (x : NM) (key : List UInt8) (va : Option Addr) (val : List UInt8) (vn vc : Nat) (w : World) {Q : Nat → Prop} (h : NQ w Q x) (hbig : NBig x) (hvn : vn = val.length) (hval : PQ w Q ⟨va, val, vc⟩) : Calls Try.prog 8 #[x.val, .string ⟨key.toArray⟩, .slice va vn vc] w (Adding (.bool true) w) := by
  obtain ⟨xl, xka, xkc, xks, xg, xia, xic, xis⟩ := x
  have HQ := hid h
  have HV := hid hval
  have HVn := hid hvn
  obtain ⟨n, hn⟩ : ∃ n, n = (⟨xl, xka, xkc, xks, xg, xia, xic, xis⟩ : NM).nd := ⟨_, rfl⟩
  have HN := hid hn
  obtain ⟨gr, hgr⟩ : ∃ gr, gr = N.great n := ⟨_, rfl⟩
  have HW := hid (fun w' => works14 w')
  have HG := hid (fun w' (hA : Adds w w') => show Calls Try.prog 9 #[.agg #[.bool xl, .slice xka xks.length xkc, .slice xg.a xg.l.length xg.cap, .slice xia xis.length xic]] w' (Adding (.bool gr) w') by rw [hgr, hn]; exact great_any _ w' (h.adds hA))
  have HC := hid (fun w' (hA : Adds w w') => show Calls Try.prog 10 #[.agg #[.bool xl, .slice xka xks.length xkc, .slice xg.a xg.l.length xg.cap, .slice xia xis.length xic]] w' (PNd w' n) by rw [hn]; exact PNode.nd (copied_big _ w' (h.adds hA) hbig))
  have HGr := hid hgr
  clear h hn hgr hbig hval hvn
  obtain ⟨N0, hN0⟩ : ∃ N0, N0 = w.heap.size := ⟨_, rfl⟩
  obtain ⟨w1, hw1⟩ : ∃ w1, w1 = w.alloc (.cells #[.bool xl, .slice xka xks.length xkc, .slice xg.a xg.l.length xg.cap, .slice xia xis.length xic] 26) := ⟨_, rfl⟩
  have A1 := hid (show Adds w w1 by rw [hw1]; exact (Touch.refl _ w).alloc _)
  have X1 := hid (show w1.heap[N0]? = some (.cells #[.bool xl, .slice xka xks.length xkc, .slice xg.a xg.l.length xg.cap, .slice xia xis.length xic] 26) by rw [hw1, hN0]; exact heap_alloc_new w _)
  show Calls Try.prog 8 #[.agg #[.bool xl, .slice xka xks.length xkc, .slice xg.a xg.l.length xg.cap, .slice xia xis.length xic], .string ⟨key.toArray⟩, .slice va vn vc] w (Adding (.bool true) w)
  go_enter Try.func8, Try.ntmps8
  go_upto_region 1 with fail
  rw [← hw1, ← hN0]
  clear hw1 hN0
  go_upto_region 3 with (go_at_call 21; refine (HW.out w1).mono ?_; rintro e w2 ⟨rfl, hA2⟩; have A2 := hid (A1.out.trans hA2); have X2 := hid (box_adds X1.out hA2); clear hA2)
  clear HW
  go_upto_region 4 with (first
    | (refine wpList_load_row rfl 26 _ rfl N0 rfl 26 _ _ _ X2.out Try.underlying26 rfl (infoR4 _ _ _ _) ?_)
    | (go_at_call 10; refine (HC.out w2 A2.out).mono ?_; rintro e w4 ⟨l, ka, kc, ks, g, ia, ic, is, rfl, H4⟩)
    | (refine wpList_store_row rfl 28 _ _ rfl _ #[.bool l, .slice ka ks.length kc, .slice g.a g.l.length g.cap, .slice ia is.length ic] rfl rfl 28 _ (heap_alloc_new _ _) (info4 _ _ _ _) rfl (one4 _ _ _ _ _ _ _ _ _ _) ?_))
  clear HC
  obtain ⟨N5, hN5⟩ : ∃ N5, N5 = w4.heap.size := ⟨_, rfl⟩
  rw [← hN5]
  obtain ⟨w5, hw5⟩ : ∃ w5, w5 = (w4.alloc NZ).setRow N5 #[.bool l, .slice ka ks.length kc, .slice g.a g.l.length g.cap, .slice ia is.length ic] := ⟨_, rfl⟩
  have HB := hid (boxed H4.out hN5 hw5)
  rw [← hw5]
  clear hw5 hN5
  have A5 := hid (A2.out.trans HB.out.2.2)
  have X5 := hid (box_adds X2.out HB.out.2.2)
  have Y5 := hid HB.out.2.1
  have HZ := hid H4.out.1
  cases gr with
  | true =>
    go_wp2_with (first
      | (refine wpList_load_row rfl 26 _ rfl N0 rfl 26 _ _ _ X5.out Try.underlying26 rfl (infoR4 _ _ _ _) ?_)
      | (go_at_call 9; refine (HG.out w5 A5.out).mono ?_; rintro e w6 ⟨rfl, hA6⟩; have A6 := hid (A5.out.trans hA6); clear hA6))
    go_ret
    exact ⟨rfl, A6.out⟩
  | false =>
  have HB2 := hid (show N.Bd 200 n by have q := HGr.out; rw [HN.out] at q ⊢; exact great_200 q.symm)
  have HS := hid (show NS ⟨xl, xka, xkc, xks, xg, xia, xic, xis⟩ from N.Bd.ns (m := 900) (by rw [← HN.out]; exact HB2.out.mono (by decide)) (by decide))
  obtain ⟨r, hr⟩ : ∃ r, r = N.right n := ⟨_, rfl⟩
  have HZs := hid (show NS ⟨l, ka, kc, ks, g, ia, ic, is⟩ from N.Bd.ns (m := 900) (by rw [HZ.out]; exact HB2.out.mono (by decide)) (by decide))
  have HR1 := hid (fun w' (hA : Adds w5 w') => show Calls Try.prog 15 #[.agg #[.bool l, .slice ka ks.length kc, .slice g.a g.l.length g.cap, .slice ia is.length ic]] w' (Adding (.bool r) w') by
    have q := nright_any ⟨l, ka, kc, ks, g, ia, ic, is⟩ w' (HB.out.1.adds hA).nq HZs.out
    rw [HZ.out, ← hr] at q
    exact q)
  have HRr := hid hr
  clear hr
  cases r with
  | false =>
    go_wp2_with (first
      | (refine wpList_load_row rfl 26 _ rfl N0 rfl 26 _ _ _ X5.out Try.underlying26 rfl (infoR4 _ _ _ _) ?_)
      | (refine wpList_load_g (by rfl) 28 _ rfl N5 0 rfl [.bool l, .slice ka ks.length kc, .slice g.a g.l.length g.cap, .slice ia is.length ic] _ (rng_of (box_adds Y5.out A6.out)) Try.underlying28 rfl infoN.out ?_)
      | (go_at_call 9; refine (HG.out w5 A5.out).mono ?_; rintro e w6 ⟨rfl, hA6⟩; have A6 := hid hA6; clear hA6)
      | (go_at_call 15; refine (HR1.out w6 A6.out).mono ?_; rintro e w7 ⟨rfl, hA7⟩; have A7 := hid (A6.out.trans hA7); clear hA7))
    go_ret
    exact ⟨rfl, A5.out.trans A7.out⟩
  | true =>
  by_cases h40 : 40 < key.length
  · have h40z : (40 : Int) < (key.length : Int) := by omega
    have h40d : decide ((40 : Int) < (key.length : Int)) = true := decide_eq_true h40z
    go_wp2_with (first
      | (refine wpList_load_row rfl 26 _ rfl N0 rfl 26 _ _ _ X5.out Try.underlying26 rfl (infoR4 _ _ _ _) ?_)
      | (refine wpList_load_g (by rfl) 28 _ rfl N5 0 rfl [.bool l, .slice ka ks.length kc, .slice g.a g.l.length g.cap, .slice ia is.length ic] _ (rng_of (box_adds Y5.out A6.out)) Try.underlying28 rfl infoN.out ?_)
      | (go_at_call 9; refine (HG.out w5 A5.out).mono ?_; rintro e w6 ⟨rfl, hA6⟩; have A6 := hid hA6; clear hA6)
      | (go_at_call 15; refine (HR1.out w6 A6.out).mono ?_; rintro e w7 ⟨rfl, hA7⟩; have A7 := hid (A6.out.trans hA7); clear hA7))
    go_ret
    exact ⟨rfl, A5.out.trans A7.out⟩
  have h40z : ¬ (40 : Int) < (key.length : Int) := by omega
  have h40d : decide ((40 : Int) < (key.length : Int)) = false := decide_eq_false h40z
  by_cases h49 : 49 < vn
  · have h49z : (49 : Int) < (vn : Int) := by omega
    have h49d : decide ((49 : Int) < (vn : Int)) = true := decide_eq_true h49z
    go_wp2_with (first
      | (refine wpList_load_row rfl 26 _ rfl N0 rfl 26 _ _ _ X5.out Try.underlying26 rfl (infoR4 _ _ _ _) ?_)
      | (refine wpList_load_g (by rfl) 28 _ rfl N5 0 rfl [.bool l, .slice ka ks.length kc, .slice g.a g.l.length g.cap, .slice ia is.length ic] _ (rng_of (box_adds Y5.out A6.out)) Try.underlying28 rfl infoN.out ?_)
      | (go_at_call 9; refine (HG.out w5 A5.out).mono ?_; rintro e w6 ⟨rfl, hA6⟩; have A6 := hid hA6; clear hA6)
      | (go_at_call 15; refine (HR1.out w6 A6.out).mono ?_; rintro e w7 ⟨rfl, hA7⟩; have A7 := hid (A6.out.trans hA7); clear hA7))
    go_ret
    exact ⟨rfl, A5.out.trans A7.out⟩
  have h49z : ¬ (49 : Int) < (vn : Int) := by omega
  have h49d : decide ((49 : Int) < (vn : Int)) = false := decide_eq_false h49z
  have HKl := hid (show key.length ≤ 40 by omega)
  have HVl := hid (show val.length ≤ 49 by have := HVn.out; omega)
  clear h40 h49
  go_upto_region 6 with (first
    | (refine wpList_load_row rfl 26 _ rfl N0 rfl 26 _ _ _ X5.out Try.underlying26 rfl (infoR4 _ _ _ _) ?_)
    | (refine wpList_load_g (by rfl) 28 _ rfl N5 0 rfl [.bool l, .slice ka ks.length kc, .slice g.a g.l.length g.cap, .slice ia is.length ic] _ (rng_of (box_adds Y5.out A6.out)) Try.underlying28 rfl infoN.out ?_)
    | (go_at_call 9; refine (HG.out w5 A5.out).mono ?_; rintro e w6 ⟨rfl, hA6⟩; have A6 := hid hA6; clear hA6)
    | (go_at_call 15; refine (HR1.out w6 A6.out).mono ?_; rintro e w7 ⟨rfl, hA7⟩; have A7 := hid (A6.out.trans hA7); clear hA7))
  clear HG HR1 h40z h40d h49z h49d
  have Y7 := hid (box_adds Y5.out A7.out)
  have X7 := hid (box_adds X5.out A7.out)
  obtain ⟨m, hm⟩ : ∃ m, m = N.lb n.keys key := ⟨_, rfl⟩
  have HM := hid hm
  have HZ7 := hid (HB.out.1.adds A7.out)
  obtain ⟨fi, hfi⟩ : ∃ fi, fi = N.findI n key := ⟨_, rfl⟩
  obtain ⟨fb, hfb⟩ : ∃ fb, fb = N.findB n key := ⟨_, rfl⟩
  have HF := hid (show Calls Try.prog 13 #[.agg #[.bool l, .slice ka ks.length kc, .slice g.a g.l.length g.cap, .slice ia is.length ic], .string ⟨key.toArray⟩] w7 (Adding (.tuple #[.int .i64 fi, .bool fb]) w7) by
    have q := nfind_any ⟨l, ka, kc, ks, g, ia, ic, is⟩ key w7 HZ7.out.nq HZs.out
    rw [HZ.out, ← hfi, ← hfb] at q
    exact q)
  have HFi := hid (And.intro hfi hfb)
  clear hm hfi hfb
  cases ha : N.isAt n.keys key with
  | true =>
    obtain ⟨e1, e2, e3, e4⟩ := N.find_yes HRr.out.symm ha
    obtain rfl : fb = true := by rw [HFi.out.2, e2]
    obtain rfl : fi = (m : Int) := by rw [HFi.out.1, e1, HM.out]
    have hmk : m < xks.length := by rw [HM.out]; have q := e3; rw [HN.out] at q ⊢; exact q
    obtain ⟨b, o, ea, hc0⟩ := HQ.out.key (i := m) hmk
    have hkm : xks.getD m [] = key := by rw [HM.out]; have q := e4; rw [HN.out] at q ⊢; exact q
    rw [show (⟨xl, xka, xkc, xks, xg, xia, xic, xis⟩ : NM).ks.getD m [] = key from hkm] at hc0
    have hmz : ¬ ((m : Int) < 0) := by omega
    have hmz2 : decide ((0 : Int) ≤ (m : Int)) = true := decide_eq_true (by omega)
    have hmk2 : decide ((m : Int) < (xks.length : Int)) = true := decide_eq_true (by omega)
    have hmk3 : (m : Int) < (xks.length : Int) := by omega
    have HKk := hid hkm
    have HHc := hid hc0
    have ea' : xka = some ⟨b, o, none⟩ := ea
    clear e1 e2 e3 e4 ha hkm hc0 ea
    subst ea'
    go_upto_region 8 with (first
      | (refine wpList_load_row rfl 28 _ rfl N5 rfl 28 _ _ _ Y7.out Try.underlying28 rfl (info4 _ _ _ _) ?_)
      | (go_at_call 13; refine HF.out.mono ?_; rintro e w8 ⟨rfl, hA8⟩; have A8 := hid hA8; clear hA8))
    obtain ⟨_, x1, _, _⟩ := box_cells (box_adds X7.out A8.out)
    have hc : w8.cell? ⟨b, o + m, none⟩ = some (.string ⟨key.toArray⟩) := below_adds (A5.out.trans (A7.out.trans A8.out)) HHc.out
    go_wp2_with fail
    go_ret
    exact ⟨rfl, A5.out.trans (A7.out.trans A8.out)⟩
  | false =>
    obtain ⟨e1, e2⟩ := N.find_no HRr.out.symm ha
    obtain rfl : fb = false := by rw [HFi.out.2, e2]
    rw [← HM.out] at e1
    have hm9 : m ≤ 200 := by
      have q1 := lb_le n.keys key
      have q2 := HB2.out.k
      rw [HM.out]; omega
    have HR := HRr.out.symm
    have hi : N.insert n (m : Int) key val 7 = (N.more n key val, 0) := by rw [HM.out]; exact N.insert_is HR HKl.out HVl.out ha
    have hre : N.remove (N.more n key val) (m : Int) = (n, 0) := by rw [HM.out]; exact N.remove_is HR HKl.out HVl.out ha
    have hfm : N.findI (N.more n key val) key = (m : Int) ∧ N.findB (N.more n key val) key = true := by rw [HM.out]; exact N.find_more HR HKl.out HVl.out ha
    obtain ⟨n2, hn2⟩ : ∃ n2, n2 = N.more n key val := ⟨_, rfl⟩
    have HBd2 := hid (show N.Bd 900 n2 by rw [hn2]; exact N.more_bd HB2.out HKl.out HVl.out)
    rw [← hn2] at hi hre hfm
    have HIn := hid (fun (w' : World) (hA : Adds w7 w') => show Calls Try.prog 25 #[.agg #[.bool l, .slice ka ks.length kc, .slice g.a g.l.length g.cap, .slice ia is.length ic], .int .i64 (m : Int), .string ⟨key.toArray⟩, .slice va vn vc, .int .i64 7] w' (PTnd w' n2 0) from
      PTnode.nd (ninsert_any ⟨l, ka, kc, ks, g, ia, ic, is⟩ (m : Int) key va val vn vc 7 w' (HZ7.out.adds hA).nq (by rw [HZ.out]; exact HB2.out.mono (by decide)) HVn.out (HV.out.adds (A5.out.trans (A7.out.trans hA))) (by have := HKl.out; omega) (by have := HVl.out; have := HVn.out; omega)) (by rw [HZ.out]; exact hi))
    have HFn := hid (fun (w' w0 : World) (z : NM) (hz : z.nd = n2) (ho : NOwn w' w0.heap.size z) => show Calls Try.prog 13 #[z.val, .string ⟨key.toArray⟩] w' (Adding (.tuple #[.int .i64 (m : Int), .bool true]) w') by
      have q := nfind_any z key w' ho.nq (N.Bd.ns (m := 900) (by rw [hz]; exact HBd2.out) (by decide))
      rw [hz, hfm.1, hfm.2] at q
      exact q)
    have HRm := hid (fun (w' w0 : World) (z : NM) (hz : z.nd = n2) (ho : NOwn w' w0.heap.size z) => show Calls Try.prog 27 #[z.val, .int .i64 (m : Int)] w' (PTnd w' n 0) from
      PTnode.nd (nremove_any z (m : Int) w' ho.nq (by rw [hz]; exact HBd2.out)) (by rw [hz]; exact hre))
    have HSm := hid (fun (w' w0 : World) (z : NM) (hA : Adds w w') (hz : z.nd = n) (ho : NOwn w' w0.heap.size z) => show Calls Try.prog 20 #[z.val, .agg #[.bool xl, .slice xka xks.length xkc, .slice xg.a xg.l.length xg.cap, .slice xia xis.length xic]] w' (Adding (.bool true) w') by
      have q := same_any z ⟨xl, xka, xkc, xks, xg, xia, xic, xis⟩ w' ho.nq (HQ.out.adds hA) (N.Bd.ns (m := 900) (by rw [hz]; exact HB2.out.mono (by decide)) (by decide)) HS.out
      rw [hz, ← HN.out, N.same_refl] at q
      exact q)
    have hlf : n.leaf = xl := by rw [HN.out]; rfl
    rw [hlf] at e1
    have HE1 := hid (show fi = _ from HFi.out.1.trans e1)
    clear e1 e2 ha hi hre hfm hn2 hlf HR HFi
    cases xl with
    | true =>
      obtain rfl : fi = (m : Int) := HE1.out
      go_upto_region 9 with (first
        | (refine wpList_load_row rfl 28 _ rfl N5 rfl 28 _ _ _ Y7.out Try.underlying28 rfl (info4 _ _ _ _) ?_)
        | (go_at_call 13; refine HF.out.mono ?_; rintro e w8 ⟨rfl, hA8⟩; have A8 := hid hA8; clear hA8))
      clear HF
      have Y8 := hid (box_adds Y7.out A8.out)
      have X8 := hid (box_adds X7.out A8.out)
      obtain ⟨x0, _, _, _⟩ := box_cells X8.out
      have HIn8 := hid (HIn.out w8 A8.out)
      go_upto_region 12 with (first
        | (refine wpList_load_row rfl 28 _ rfl N5 rfl 28 _ _ _ Y8.out Try.underlying28 rfl (info4 _ _ _ _) ?_)
        | (go_at_call 25; refine HIn8.out.mono ?_; rintro e w9 ⟨l9, ka9, kc9, ks9, g9, ia9, ic9, is9, rfl, H9⟩)
        | (refine wpList_store_row rfl 28 _ _ rfl _ #[.bool l9, .slice ka9 ks9.length kc9, .slice g9.a g9.l.length g9.cap, .slice ia9 is9.length ic9] rfl rfl 28 _ (heap_alloc_new _ _) (info4 _ _ _ _) rfl (one4 _ _ _ _ _ _ _ _ _ _) ?_))
      clear x0 HIn HIn8
      obtain ⟨N10, hN10⟩ : ∃ N10, N10 = w9.heap.size := ⟨_, rfl⟩
      rw [← hN10]
      obtain ⟨w10, hw10⟩ : ∃ w10, w10 = (w9.alloc NZ).setRow N10 #[.bool l9, .slice ka9 ks9.length kc9, .slice g9.a g9.l.length g9.cap, .slice ia9 is9.length ic9] := ⟨_, rfl⟩
      have HB10 := hid (boxed H9.out hN10 hw10)
      rw [← hw10]
      clear hw10 hN10
      have X10 := hid (box_adds X8.out HB10.out.2.2)
      have Y10 := hid HB10.out.2.1
      have A10 := hid (A5.out.trans (A7.out.trans (A8.out.trans HB10.out.2.2)))
      have HF10 := hid (show Calls Try.prog 13 #[.agg #[.bool l9, .slice ka9 ks9.length kc9, .slice g9.a g9.l.length g9.cap, .slice ia9 is9.length ic9], .string ⟨key.toArray⟩] w10 (Adding (.tuple #[.int .i64 (m : Int), .bool true]) w10) from HFn.out w10 w8 ⟨l9, ka9, kc9, ks9, g9, ia9, ic9, is9⟩ H9.out.1 HB10.out.1)
      go_upto_region 15 with (first
        | (refine wpList_load_row rfl 28 _ rfl N10 rfl 28 _ _ _ Y10.out Try.underlying28 rfl (info4 _ _ _ _) ?_)
        | (go_at_call 13; refine HF10.out.mono ?_; rintro e w11 ⟨rfl, hA11⟩; have A11 := hid hA11; clear hA11))
      clear HF10 HFn
      have Y11 := hid (box_adds Y10.out A11.out)
      have X11 := hid (box_adds X10.out A11.out)
      have HR11 := hid (show Calls Try.prog 27 #[.agg #[.bool l9, .slice ka9 ks9.length kc9, .slice g9.a g9.l.length g9.cap, .slice ia9 is9.length ic9], .int .i64 (m : Int)] w11 (PTnd w11 n 0) from HRm.out w11 w8 ⟨l9, ka9, kc9, ks9, g9, ia9, ic9, is9⟩ H9.out.1 (HB10.out.1.adds A11.out))
      go_upto_region 16 with (first
        | (refine wpList_load_row rfl 28 _ rfl N10 rfl 28 _ _ _ Y11.out Try.underlying28 rfl (info4 _ _ _ _) ?_)
        | (go_at_call 27; refine HR11.out.mono ?_; rintro e w12 ⟨l7, ka7, kc7, ks7, g7, ia7, ic7, is7, rfl, H12⟩)
        | (refine wpList_store_row rfl 28 _ _ rfl _ #[.bool l7, .slice ka7 ks7.length kc7, .slice g7.a g7.l.length g7.cap, .slice ia7 is7.length ic7] rfl rfl 28 _ (heap_alloc_new _ _) (info4 _ _ _ _) rfl (one4 _ _ _ _ _ _ _ _ _ _) ?_))
      clear HR11 HRm
      obtain ⟨N13, hN13⟩ : ∃ N13, N13 = w12.heap.size := ⟨_, rfl⟩
      rw [← hN13]
      obtain ⟨w13, hw13⟩ : ∃ w13, w13 = (w12.alloc NZ).setRow N13 #[.bool l7, .slice ka7 ks7.length kc7, .slice g7.a g7.l.length g7.cap, .slice ia7 is7.length ic7] := ⟨_, rfl⟩
      have HB13 := hid (boxed H12.out hN13 hw13)
      rw [← hw13]
      clear hw13 hN13
      have X13 := hid (box_adds X11.out HB13.out.2.2)
      have A13 := hid (A10.out.trans (A11.out.trans HB13.out.2.2))
      have HS13 := hid (show Calls Try.prog 20 #[.agg #[.bool l7, .slice ka7 ks7.length kc7, .slice g7.a g7.l.length g7.cap, .slice ia7 is7.length ic7], .agg #[.bool true, .slice xka xks.length xkc, .slice xg.a xg.l.length xg.cap, .slice xia xis.length xic]] w13 (Adding (.bool true) w13) from HSm.out w13 w11 ⟨l7, ka7, kc7, ks7, g7, ia7, ic7, is7⟩ A13.out H12.out.1 HB13.out.1)
      go_wp2_with (first
        | (refine wpList_load_g (by rfl) 28 _ rfl N13 0 rfl [.bool l7, .slice ka7 ks7.length kc7, .slice g7.a g7.l.length g7.cap, .slice ia7 is7.length ic7] _ (rng_of (HB13.out.2.1)) Try.underlying28 rfl infoN.out ?_)
        | (refine wpList_load_g (by rfl) 26 _ rfl N0 0 rfl [.bool true, .slice xka xks.length xkc, .slice xg.a xg.l.length xg.cap, .slice xia xis.length xic] _ (rng_of (X13.out)) Try.underlying26 rfl infoRN.out ?_)
        | (go_at_call 20; refine HS13.out.mono ?_; rintro e w14 ⟨rfl, hA14⟩; have A14 := hid hA14; clear hA14))
      go_ret
      exact ⟨rfl, A13.out.trans A14.out⟩
    | false =>
      obtain rfl : fi = (m : Int) - 1 := HE1.out
      go_upto_region 9 with (first
        | (refine wpList_load_row rfl 28 _ rfl N5 rfl 28 _ _ _ Y7.out Try.underlying28 rfl (info4 _ _ _ _) ?_)
        | (go_at_call 13; refine HF.out.mono ?_; rintro e w8 ⟨rfl, hA8⟩; have A8 := hid hA8; clear hA8))
      clear HF
      have Y8 := hid (box_adds Y7.out A8.out)
      have X8 := hid (box_adds X7.out A8.out)
      obtain ⟨x0, _, _, _⟩ := box_cells X8.out
      have HIn8 := hid (HIn.out w8 A8.out)
      go_upto_region 12 with (first
        | (refine wpList_load_row rfl 28 _ rfl N5 rfl 28 _ _ _ Y8.out Try.underlying28 rfl (info4 _ _ _ _) ?_)
        | (go_at_call 25; refine HIn8.out.mono ?_; rintro e w9 ⟨l9, ka9, kc9, ks9, g9, ia9, ic9, is9, rfl, H9⟩)
        | (refine wpList_store_row rfl 28 _ _ rfl _ #[.bool l9, .slice ka9 ks9.length kc9, .slice g9.a g9.l.length g9.cap, .slice ia9 is9.length ic9] rfl rfl 28 _ (heap_alloc_new _ _) (info4 _ _ _ _) rfl (one4 _ _ _ _ _ _ _ _ _ _) ?_))
      clear x0 HIn HIn8
      obtain ⟨N10, hN10⟩ : ∃ N10, N10 = w9.heap.size := ⟨_, rfl⟩
      rw [← hN10]
      obtain ⟨w10, hw10⟩ : ∃ w10, w10 = (w9.alloc NZ).setRow N10 #[.bool l9, .slice ka9 ks9.length kc9, .slice g9.a g9.l.length g9.cap, .slice ia9 is9.length ic9] := ⟨_, rfl⟩
      have HB10 := hid (boxed H9.out hN10 hw10)
      rw [← hw10]
      clear hw10 hN10
      have X10 := hid (box_adds X8.out HB10.out.2.2)
      have Y10 := hid HB10.out.2.1
      have A10 := hid (A5.out.trans (A7.out.trans (A8.out.trans HB10.out.2.2)))
      have HF10 := hid (show Calls Try.prog 13 #[.agg #[.bool l9, .slice ka9 ks9.length kc9, .slice g9.a g9.l.length g9.cap, .slice ia9 is9.length ic9], .string ⟨key.toArray⟩] w10 (Adding (.tuple #[.int .i64 (m : Int), .bool true]) w10) from HFn.out w10 w8 ⟨l9, ka9, kc9, ks9, g9, ia9, ic9, is9⟩ H9.out.1 HB10.out.1)
      go_upto_region 15 with (first
        | (refine wpList_load_row rfl 28 _ rfl N10 rfl 28 _ _ _ Y10.out Try.underlying28 rfl (info4 _ _ _ _) ?_)
        | (go_at_call 13; refine HF10.out.mono ?_; rintro e w11 ⟨rfl, hA11⟩; have A11 := hid hA11; clear hA11))
      clear HF10 HFn
      have Y11 := hid (box_adds Y10.out A11.out)
      have X11 := hid (box_adds X10.out A11.out)
      have HR11 := hid (show Calls Try.prog 27 #[.agg #[.bool l9, .slice ka9 ks9.length kc9, .slice g9.a g9.l.length g9.cap, .slice ia9 is9.length ic9], .int .i64 (m : Int)] w11 (PTnd w11 n 0) from HRm.out w11 w8 ⟨l9, ka9, kc9, ks9, g9, ia9, ic9, is9⟩ H9.out.1 (HB10.out.1.adds A11.out))
      go_upto_region 16 with (first
        | (refine wpList_load_row rfl 28 _ rfl N10 rfl 28 _ _ _ Y11.out Try.underlying28 rfl (info4 _ _ _ _) ?_)
        | (go_at_call 27; refine HR11.out.mono ?_; rintro e w12 ⟨l7, ka7, kc7, ks7, g7, ia7, ic7, is7, rfl, H12⟩)
        | (refine wpList_store_row rfl 28 _ _ rfl _ #[.bool l7, .slice ka7 ks7.length kc7, .slice g7.a g7.l.length g7.cap, .slice ia7 is7.length ic7] rfl rfl 28 _ (heap_alloc_new _ _) (info4 _ _ _ _) rfl (one4 _ _ _ _ _ _ _ _ _ _) ?_))
      clear HR11 HRm
      obtain ⟨N13, hN13⟩ : ∃ N13, N13 = w12.heap.size := ⟨_, rfl⟩
      rw [← hN13]
      obtain ⟨w13, hw13⟩ : ∃ w13, w13 = (w12.alloc NZ).setRow N13 #[.bool l7, .slice ka7 ks7.length kc7, .slice g7.a g7.l.length g7.cap, .slice ia7 is7.length ic7] := ⟨_, rfl⟩
      have HB13 := hid (boxed H12.out hN13 hw13)
      rw [← hw13]
      clear hw13 hN13
      have X13 := hid (box_adds X11.out HB13.out.2.2)
      have A13 := hid (A10.out.trans (A11.out.trans HB13.out.2.2))
      have HS13 := hid (show Calls Try.prog 20 #[.agg #[.bool l7, .slice ka7 ks7.length kc7, .slice g7.a g7.l.length g7.cap, .slice ia7 is7.length ic7], .agg #[.bool false, .slice xka xks.length xkc, .slice xg.a xg.l.length xg.cap, .slice xia xis.length xic]] w13 (Adding (.bool true) w13) from HSm.out w13 w11 ⟨l7, ka7, kc7, ks7, g7, ia7, ic7, is7⟩ A13.out H12.out.1 HB13.out.1)
      go_wp2_with (first
        | (refine wpList_load_g (by rfl) 28 _ rfl N13 0 rfl [.bool l7, .slice ka7 ks7.length kc7, .slice g7.a g7.l.length g7.cap, .slice ia7 is7.length ic7] _ (rng_of (HB13.out.2.1)) Try.underlying28 rfl infoN.out ?_)
        | (refine wpList_load_g (by rfl) 26 _ rfl N0 0 rfl [.bool false, .slice xka xks.length xkc, .slice xg.a xg.l.length xg.cap, .slice xia xis.length xic] _ (rng_of (X13.out)) Try.underlying26 rfl infoRN.out ?_)
        | (go_at_call 20; refine HS13.out.mono ?_; rintro e w14 ⟨rfl, hA14⟩; have A14 := hid hA14; clear hA14))
      go_ret
      exact ⟨rfl, A13.out.trans A14.out⟩
end Go.Proofs.Ytplppnngmlljnaa
