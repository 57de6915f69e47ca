/- Texts put together: NGreat, NInsert, NWorks, NBack, NRRight. -/
import Derived.Test.YtplppnngmlljnaaQ14
import Derived.Test.YtplppnngmlljnaaQ15
import Derived.Lib.SlBytesConst
import Derived.Deep.QuietTactic
import Derived.BigQuiet
/- Whether a node is too great to be asked of. -/
namespace Go.Proofs.Ytplppnngmlljnaa
open Go.RowKit

def N.great (n : N.Nd) : Bool := (((decide (200 < n.keys.length) || decide (200 < n.vals.length)) || decide (200 < n.kids.length)) || n.keys.any fun k => decide (200 < k.length)) || n.vals.any fun k => decide (200 < k.length)
theorem any_at {l : List (List UInt8)} {j : Nat} (hj : j < l.length) (h : 200 < (l.getD j []).length) : (l.any fun k => decide (200 < k.length)) = true := by
  rw [List.any_eq_true]
  refine ⟨l[j], List.getElem_mem hj, decide_eq_true ?_⟩
  simpa [List.getD_eq_getElem?_getD, hj] using h
theorem any_no {l : List (List UInt8)} (h : ∀ j, j < l.length → ¬ 200 < (l.getD j []).length) : (l.any fun k => decide (200 < k.length)) = false := by
  rw [List.any_eq_false]
  intro k hk
  obtain ⟨j, hj, rfl⟩ := List.getElem_of_mem hk
  have := h j hj
  simpa [List.getD_eq_getElem?_getD, hj] using this
theorem N.great_k {n : N.Nd} (h : 200 < n.keys.length) : N.great n = true := by simp [N.great, h]
theorem N.great_v {n : N.Nd} (h : 200 < n.vals.length) : N.great n = true := by simp [N.great, h]
theorem N.great_i {n : N.Nd} (h : 200 < n.kids.length) : N.great n = true := by simp [N.great, h]
theorem N.great_kk {n : N.Nd} {j : Nat} (hj : j < n.keys.length) (h : 200 < (n.keys.getD j []).length) : N.great n = true := by unfold N.great; rw [any_at hj h]; simp
theorem N.great_vv {n : N.Nd} {j : Nat} (hj : j < n.vals.length) (h : 200 < (n.vals.getD j []).length) : N.great n = true := by unfold N.great; rw [any_at hj h]; simp
theorem N.great_no {n : N.Nd} (h1 : ¬ 200 < n.keys.length) (h2 : ¬ 200 < n.vals.length) (h3 : ¬ 200 < n.kids.length) (h4 : ∀ j, j < n.keys.length → ¬ 200 < (n.keys.getD j []).length) (h5 : ∀ j, j < n.vals.length → ¬ 200 < (n.vals.getD j []).length) : N.great n = false := by
  unfold N.great
  rw [any_no h4, any_no h5, decide_eq_false h1, decide_eq_false h2, decide_eq_false h3]; rfl
theorem N.great_is {n : N.Nd} (h : N.great n = false) : n.keys.length ≤ 200 ∧ n.vals.length ≤ 200 ∧ n.kids.length ≤ 200 ∧ (∀ k ∈ n.keys, k.length ≤ 200) ∧ (∀ k ∈ n.vals, k.length ≤ 200) := by
  simp only [N.great, Bool.or_eq_false_iff, decide_eq_false_iff_not, List.any_eq_false, decide_eq_true_eq] at h
  obtain ⟨⟨⟨⟨h1, h2⟩, h3⟩, h4⟩, h5⟩ := h
  exact ⟨by omega, by omega, by omega, fun k hk => by have := h4 k hk; omega, fun k hk => by have := h5 k hk; omega⟩
set_option maxRecDepth 100000 in
set_option maxHeartbeats 2000000 in
theorem great_any (x : NM) (w : World) {Q : Nat → Prop} (h : NQ w Q x) : Calls Try.prog 9 #[x.val] w (Adding (.bool (N.great x.nd)) w) := by
  obtain ⟨leaf, ka, kc, ks, g, ia, ic, zs⟩ := x
  have HQ := hid h
  obtain ⟨r, hr⟩ : ∃ r, r = N.great (NM.nd ⟨leaf, ka, kc, ks, g, ia, ic, zs⟩) := ⟨_, rfl⟩
  have HRr := hid hr
  rw [← hr]
  clear hr h
  obtain ⟨kn, hkn⟩ : ∃ kn, kn = ks.length := ⟨_, rfl⟩
  obtain ⟨vn, hvn⟩ : ∃ vn, vn = g.l.length := ⟨_, rfl⟩
  obtain ⟨zn, hzn⟩ : ∃ zn, zn = zs.length := ⟨_, rfl⟩
  obtain ⟨ga, hga⟩ : ∃ a, a = g.a := ⟨_, rfl⟩
  unfold NM.val NM.kv NM.vv NM.iv
  simp only [← hkn, ← hvn, ← hzn, ← hga]
  have HKn := hid hkn
  have HVn := hid (show vn = g.bs.length by rw [hvn]; exact (List.length_map _).symm)
  have HVl := hid hvn
  have HZn := hid hzn
  have HGa := hid hga
  clear hkn hvn hzn hga
  obtain ⟨N0, hN0⟩ : ∃ N0, N0 = w.heap.size := ⟨_, rfl⟩
  obtain ⟨w1, hw1⟩ : ∃ w1, w1 = w.alloc (.cells #[.bool leaf, .slice ka kn kc, .slice ga vn g.cap, .slice ia zn ic] 26) := ⟨_, rfl⟩
  have HA1 := hid (show Adds w w1 by rw [hw1]; exact (Touch.refl _ w).alloc _)
  have hbx : w1.heap[N0]? = some (.cells #[.bool leaf, .slice ka kn kc, .slice ga vn g.cap, .slice ia zn ic] 26) := by rw [hw1, hN0]; exact heap_alloc_new w _
  obtain ⟨b0, b1, b2, b3⟩ := box_cells hbx
  clear hbx
  go_enter Try.func9, Try.ntmps9
  go_upto_region 1 with fail
  rw [← hw1, ← hN0]
  clear hw1 hN0
  by_cases hk9 : 200 < kn
  · have hkz : (200 : Int) < (kn : Int) := by omega
    have hkd : decide ((200 : Int) < (kn : Int)) = true := decide_eq_true hkz
    go_wp2_with fail
    go_ret
    exact ⟨congrArg (fun z => Ending.returned (Value.bool z)) (show true = r by rw [HRr.out]; exact (N.great_k (show 200 < ks.length by rw [← HKn.out]; exact hk9)).symm), HA1.out⟩
  have hkz : ¬ (200 : Int) < (kn : Int) := by omega
  have hkd : decide ((200 : Int) < (kn : Int)) = false := decide_eq_false hkz
  by_cases hv9 : 200 < vn
  · have hvz : (200 : Int) < (vn : Int) := by omega
    have hvd : decide ((200 : Int) < (vn : Int)) = true := decide_eq_true hvz
    go_wp2_with fail
    go_ret
    exact ⟨congrArg (fun z => Ending.returned (Value.bool z)) (show true = r by rw [HRr.out]; exact (N.great_v (show 200 < g.bs.length by rw [← HVn.out]; exact hv9)).symm), HA1.out⟩
  have hvz : ¬ (200 : Int) < (vn : Int) := by omega
  have hvd : decide ((200 : Int) < (vn : Int)) = false := decide_eq_false hvz
  by_cases hz9 : 200 < zn
  · have hzz : (200 : Int) < (zn : Int) := by omega
    have hzd : decide ((200 : Int) < (zn : Int)) = true := decide_eq_true hzz
    go_wp2_with fail
    go_ret
    exact ⟨congrArg (fun z => Ending.returned (Value.bool z)) (show true = r by rw [HRr.out]; exact (N.great_i (show 200 < zs.length by rw [← HZn.out]; exact hz9)).symm), HA1.out⟩
  have hzz : ¬ (200 : Int) < (zn : Int) := by omega
  have hzd : decide ((200 : Int) < (zn : Int)) = false := decide_eq_false hzz
  go_wp2_with fail
  go_loopw [26] (fun t wx => ∃ i : Nat, i ≤ kn ∧ t = .int .i64 (i : Int) ∧ wx = w1 ∧ Hid (∀ j, j < i → ¬ 200 < (ks.getD j []).length)) (fun t _ => kn - (intOf t).toNat)
  case atStart => exact ⟨0, Nat.zero_le _, rfl, rfl, fun j h => by omega⟩
  case round =>
    obtain ⟨i, hi, rfl, hwx, HJ⟩ := hrel
    rw [hwx]
    clear hwx
    by_cases hlt : i < kn
    · have hlz : (i : Int) < (kn : Int) := by omega
      have hi2 : i < ks.length := by rw [← HKn.out]; exact hlt
      obtain ⟨b, o, ea, hc0⟩ := HQ.out.key hi2
      have ea' : ka = some ⟨b, o, none⟩ := ea
      rw [ea'] at b1 ⊢
      obtain ⟨k, hk⟩ : ∃ k, k = ks.getD i [] := ⟨_, rfl⟩
      have hc : w1.cell? ⟨b, o + i, none⟩ = some (.string ⟨k.toArray⟩) := by rw [hk]; exact below_adds HA1.out hc0
      have HK := hid hk
      have HI2 := hid hi2
      clear hc0 hk hi2 ea ea'
      by_cases h40 : 200 < k.length
      · have h40z : (200 : Int) < (k.length : Int) := by omega
        go_wp2_with fail
        go_ret
        exact ⟨congrArg (fun z => Ending.returned (Value.bool z)) (show true = r by rw [HRr.out]; exact (N.great_kk (n := NM.nd ⟨leaf, _, kc, ks, g, ia, ic, zs⟩) HI2.out (by show 200 < (ks.getD i []).length; rw [← HK.out]; exact h40)).symm), HA1.out⟩
      · have h40z : ¬ (200 : Int) < (k.length : Int) := by omega
        go_wp2_with fail
        go_roundw
        case rel =>
          refine ⟨i + 1, by omega, by go_num, by trivial, fun j hj => ?_⟩
          rcases Nat.lt_or_eq_of_le (Nat.le_of_lt_succ hj) with q | q
          · exact HJ.out j q
          · rw [q, ← HK.out]; exact h40
        case measure => simp [intOf]; omega
    · obtain rfl : i = kn := by omega
      have hlz : ¬ (i : Int) < (i : Int) := by omega
      go_wp2_with fail
      go_loopw [37] (fun t wx => ∃ u : Nat, u ≤ vn ∧ t = .int .i64 (u : Int) ∧ wx = w1 ∧ Hid (∀ j, j < u → ¬ 200 < (g.bs.getD j []).length)) (fun t _ => vn - (intOf t).toNat)
      case atStart => exact ⟨0, Nat.zero_le _, rfl, rfl, fun j h => by omega⟩
      case round =>
        obtain ⟨u, hu, rfl, hwx, HV⟩ := hrel
        rw [hwx]
        clear hwx
        by_cases hult : u < vn
        · have hulz : (u : Int) < (vn : Int) := by omega
          have hu1 : u < g.l.length := by rw [← HVl.out]; exact hult
          obtain ⟨b, o, ea, hc0⟩ := HQ.out.vals.cell hu1
          obtain ⟨p, hp⟩ : ∃ p, p = g.l[u] := ⟨_, rfl⟩
          obtain ⟨m, hm⟩ : ∃ m, m = p.bs.length := ⟨_, rfl⟩
          obtain ⟨pa, hpa⟩ : ∃ a, a = p.a := ⟨_, rfl⟩
          obtain ⟨pc, hpc⟩ : ∃ a, a = p.cap := ⟨_, rfl⟩
          have hc : w1.cell? ⟨b, o + u, none⟩ = some (.slice pa m pc) := by rw [hm, hpa, hpc, hp]; exact below_adds HA1.out hc0
          have HM := hid (show m = (g.bs.getD u []).length by rw [hm, hp, Pl.bs, List.getD_eq_getElem?_getD, List.getElem?_map, List.getElem?_eq_getElem hu1]; rfl)
          have ea' : ga = some ⟨b, o, none⟩ := by rw [HGa.out]; exact ea
          rw [ea'] at b2 ⊢
          clear hc0 hp hm hpa hpc ea ea' hu1
          by_cases h40 : 200 < m
          · have h40z : (200 : Int) < (m : Int) := by omega
            go_wp2_with fail
            go_ret
            exact ⟨congrArg (fun z => Ending.returned (Value.bool z)) (show true = r by rw [HRr.out]; exact (N.great_vv (n := NM.nd ⟨leaf, ka, kc, ks, g, ia, ic, zs⟩) (show u < g.bs.length by rw [← HVn.out]; exact hult) (by show 200 < (g.bs.getD u []).length; rw [← HM.out]; exact h40)).symm), HA1.out⟩
          · have h40z : ¬ (200 : Int) < (m : Int) := by omega
            go_wp2_with fail
            go_roundw
            case rel =>
              refine ⟨u + 1, by omega, by go_num, by trivial, fun j hj => ?_⟩
              rcases Nat.lt_or_eq_of_le (Nat.le_of_lt_succ hj) with q | q
              · exact HV.out j q
              · rw [q, ← HM.out]; exact h40
            case measure => simp [intOf]; omega
        · obtain rfl : u = vn := by omega
          have hulz : ¬ (u : Int) < (u : Int) := by omega
          go_wp2_with fail
          go_ret
          exact ⟨congrArg (fun z => Ending.returned (Value.bool z)) (show false = r by rw [HRr.out]; exact (N.great_no (n := NM.nd ⟨leaf, ka, kc, ks, g, ia, ic, zs⟩) (by show ¬ 200 < ks.length; rw [← HKn.out]; exact hk9) (by show ¬ 200 < g.bs.length; rw [← HVn.out]; exact hv9) (by show ¬ 200 < zs.length; rw [← HZn.out]; exact hz9) (fun j hj => HJ.out j (by rw [HKn.out]; exact hj)) (fun j hj => HV.out j (by rw [HVn.out]; exact hj))).symm), HA1.out⟩
end Go.Proofs.Ytplppnngmlljnaa

/- A cell put in. -/
namespace Go.Proofs.Ytplppnngmlljnaa
open Go.RowKit

theorem three_new (w : World) (a b c : Value) (t1 t2 t3 : TypeId) : (((w.alloc (.cells #[a] t1)).alloc (.cells #[b] t2)).alloc (.cells #[c] t3)).cell? ⟨w.heap.size, 0, none⟩ = some a ∧ (((w.alloc (.cells #[a] t1)).alloc (.cells #[b] t2)).alloc (.cells #[c] t3)).cell? ⟨w.heap.size + 1, 0, none⟩ = some b ∧ (((w.alloc (.cells #[a] t1)).alloc (.cells #[b] t2)).alloc (.cells #[c] t3)).cell? ⟨w.heap.size + 2, 0, none⟩ = some c := by
  have e1 : (w.alloc (.cells #[a] t1)).heap.size = w.heap.size + 1 := by simp
  have e2 : ((w.alloc (.cells #[a] t1)).alloc (.cells #[b] t2)).heap.size = w.heap.size + 2 := by simp
  refine ⟨?_, ?_, ?_⟩
  · rw [cellOf (box_adds (box_adds (heap_alloc_new w (.cells #[a] t1)) ((Touch.refl _ _).alloc _)) ((Touch.refl _ _).alloc _))]; rfl
  · rw [← e1, cellOf (box_adds (heap_alloc_new (w.alloc (.cells #[a] t1)) (.cells #[b] t2)) ((Touch.refl _ _).alloc _))]; rfl
  · rw [← e2, cellOf (heap_alloc_new _ (.cells #[c] t3))]; rfl
theorem cq_one {w : World} {g : Nat} {u : Value} (h : w.cell? ⟨g, 0, none⟩ = some u) : CQ w (fun _ => True) (some ⟨g, 0, none⟩) [u] := by
  intro j v hj
  match j, hj with
  | 0, hj =>
    obtain rfl : u = v := by simpa using hj
    exact ⟨g, 0, rfl, trivial, h⟩
theorem nq_one {w : World} {g0 g1 g2 : Nat} {key val : List UInt8} {kid : Int} {a : Option Addr} {vn cap : Nat} {Q : Nat → Prop} (hn : vn = val.length) (h0 : w.cell? ⟨g0, 0, none⟩ = some (Str key)) (h1 : w.cell? ⟨g1, 0, none⟩ = some (.slice a vn cap)) (h2 : w.cell? ⟨g2, 0, none⟩ = some (.int .i64 kid)) (hA : PQ w Q ⟨a, val, cap⟩) :
    NQ w (fun _ => True) ⟨false, some ⟨g0, 0, none⟩, 1, [key], ⟨some ⟨g1, 0, none⟩, 1, [⟨a, val, cap⟩]⟩, some ⟨g2, 0, none⟩, 1, [kid]⟩ := by
  subst hn
  refine ⟨cq_one h0, fun e => (by cases e), by simp, ⟨cq_one h1, fun e => (by cases e), fun p hp => ?_⟩, by simp, cq_one h2, fun e => (by cases e), by simp⟩
  rw [List.mem_singleton.1 hp]
  exact hA.mono (fun _ _ _ => trivial)
set_option maxRecDepth 100000 in
set_option maxHeartbeats 8000000 in
theorem ninsert_any (x : NM) (i : Int) (key : List UInt8) (a : Option Addr) (val : List UInt8) (vn cap : Nat) (kid : Int) (w : World) {Q Q' : Nat → Prop} (hx : NQ w Q x) (hb : N.Bd 900 x.nd) (hvn : vn = val.length) (hval : PQ w Q' ⟨a, val, cap⟩) (hkl : key.length ≤ 1000) (hvl : vn ≤ 1000) :
    Calls Try.prog 25 #[x.val, .int .i64 i, .string ⟨key.toArray⟩, .slice a vn cap, .int .i64 kid] w (PTnode w (N.insert x.nd i key val kid)) := by
  have sx := hb.ns (by decide)
  obtain ⟨N0, N1, w2, hN0, hN1, hw2, HA2, HB0, HB1, HL⟩ := nopen w #[.bool x.leaf, .slice x.ka x.ks.length x.kc, .slice x.v.a x.v.l.length x.v.cap, .slice x.ia x.is.length x.ic]
  obtain ⟨r, hr⟩ : ∃ r, r = N.right x.nd := ⟨_, rfl⟩
  have HC := hid (show Calls Try.prog 15 #[x.val] w2 (Adding (.bool r) w2) by rw [hr]; exact nright_any x w2 (hx.adds HA2.out) sx)
  have HR := hid hr
  have HX := hid hx
  have HSx := hid sx
  have HBd := hid hb
  have HVn := hid hvn
  have HVa := hid hval
  have HKl := hid hkl
  obtain ⟨kn, hkn⟩ : ∃ kn, kn = x.ks.length := ⟨_, rfl⟩
  have hk9 : kn ≤ 900 := by rw [hkn]; exact hb.k
  have HKn := hid hkn
  have hv : x.val = .agg #[.bool x.leaf, .slice x.ka kn x.kc, .slice x.v.a x.v.l.length x.v.cap, .slice x.ia x.is.length x.ic] := by rw [hkn]
  have HV := hid hv
  rw [hv] at HC ⊢
  rw [← hkn] at hw2 HB0
  clear hx sx hb hr hkn hv hvn hval hkl
  go_enter Try.func25, Try.ntmps25
  go_upto_region 1 with fail
  rw [← hw2, ← hN0, ← hN1]
  clear hw2 hN0 hN1
  obtain ⟨c0, c1, c2, c3⟩ := box_cells HB0.out
  cases r with
  | false =>
    have HE := hid (show N.insert x.nd i key val kid = (N.nil, 22) by unfold N.insert; rw [← HR.out]; rfl)
    go_upto_region 2 with (go_at_call 15; refine HC.out.mono ?_; rintro e w3 ⟨rfl, hA3⟩; have H3 := hid hA3; clear hA3)
    clear c0 c1 c2 c3
    have HB3 := hid (box_adds HB1.out H3.out)
    go_wp2_with (refine wpList_store_row rfl 28 _ _ rfl N1 #[.bool false, .slice .none 0 0, .slice .none 0 0, .slice .none 0 0] rfl rfl 28 _ HB3.out (info4 _ _ _ _) rfl (one4 _ _ _ _ _ _ _ _ _ _) ?_)
    refine bodyPost_ret (results_n2 rfl _ _ N1 _ rfl (setRow_heap w3 N1 _ _ 28 _ HB3.out) rfl) rfl ?_
    rw [HE.out]
    exact ptnode_end (z := NM.none) rfl rfl (NOwn.none _ _) (HA2.out.trans H3.out) HB3.out HL.out _
  | true =>
    by_cases hin : i < 0 ∨ (kn : Int) < i
    · have HE := hid (show N.insert x.nd i key val kid = (N.nil, 40) by unfold N.insert; rw [← HR.out, if_neg (by decide), if_pos (by rw [show x.nd.keys.length = kn from HKn.out.symm]; exact hin)])
      by_cases h0 : i < 0
      · clear hin
        go_upto_region 4 with (go_at_call 15; refine HC.out.mono ?_; rintro e w3 ⟨rfl, hA3⟩; have H3 := hid hA3; clear hA3)
        clear c0 c1 c2 c3
        have HB3 := hid (box_adds HB1.out H3.out)
        go_wp2_with (refine wpList_store_row rfl 28 _ _ rfl N1 #[.bool false, .slice .none 0 0, .slice .none 0 0, .slice .none 0 0] rfl rfl 28 _ HB3.out (info4 _ _ _ _) rfl (one4 _ _ _ _ _ _ _ _ _ _) ?_)
        refine bodyPost_ret (results_n2 rfl _ _ N1 _ rfl (setRow_heap w3 N1 _ _ 28 _ HB3.out) rfl) rfl ?_
        rw [HE.out]
        exact ptnode_end (z := NM.none) rfl rfl (NOwn.none _ _) (HA2.out.trans H3.out) HB3.out HL.out _
      · have h1 : (kn : Int) < i := hin.resolve_left h0
        clear hin
        go_upto_region 4 with (go_at_call 15; refine HC.out.mono ?_; rintro e w3 ⟨rfl, hA3⟩; have H3 := hid hA3; have q1 := (box_cells (box_adds HB0.out hA3)).2.1; clear hA3)
        clear c0 c1 c2 c3 q1
        have HB3 := hid (box_adds HB1.out H3.out)
        go_wp2_with (refine wpList_store_row rfl 28 _ _ rfl N1 #[.bool false, .slice .none 0 0, .slice .none 0 0, .slice .none 0 0] rfl rfl 28 _ HB3.out (info4 _ _ _ _) rfl (one4 _ _ _ _ _ _ _ _ _ _) ?_)
        refine bodyPost_ret (results_n2 rfl _ _ N1 _ rfl (setRow_heap w3 N1 _ _ 28 _ HB3.out) rfl) rfl ?_
        rw [HE.out]
        exact ptnode_end (z := NM.none) rfl rfl (NOwn.none _ _) (HA2.out.trans H3.out) HB3.out HL.out _
    · obtain ⟨k, rfl⟩ : ∃ k : Nat, i = (k : Int) := ⟨i.toNat, by omega⟩
      have hlt : k ≤ kn := by omega
      have h0 : ¬ (k : Int) < 0 := by omega
      have h1 : ¬ (kn : Int) < (k : Int) := by omega
      obtain ⟨nd, hnd⟩ : ∃ nd, nd = N.change x.nd k k ⟨false, [key], [val], [kid]⟩ := ⟨_, rfl⟩
      have HE := hid (show N.insert x.nd (k : Int) key val kid = N.told nd by
        unfold N.insert
        rw [← HR.out, if_neg (by decide), if_neg (by rw [show x.nd.keys.length = kn from HKn.out.symm]; exact hin), Int.toNat_natCast, hnd])
      have HCh := hid (fun (w3 : World) (hA : Adds w w3) => show Calls Try.prog 55 #[.agg #[.bool x.leaf, .slice x.ka kn x.kc, .slice x.v.a x.v.l.length x.v.cap, .slice x.ia x.is.length x.ic], .int .i64 (k : Int), .int .i64 (k : Int), .agg #[.bool false, .slice (some ⟨w3.heap.size, 0, none⟩) 1 1, .slice (some ⟨w3.heap.size + 1, 0, none⟩) 1 1, .slice (some ⟨w3.heap.size + 2, 0, none⟩) 1 1]] (((w3.alloc (.cells #[.string ⟨key.toArray⟩] 9)).alloc (.cells #[.slice a vn cap] 30)).alloc (.cells #[.int .i64 kid] 3)) (PNode _ nd) by
        obtain ⟨q0, q1, q2⟩ := three_new w3 (.string ⟨key.toArray⟩) (.slice a vn cap) (.int .i64 kid) 9 30 3
        have hA' : Adds w (((w3.alloc (.cells #[.string ⟨key.toArray⟩] 9)).alloc (.cells #[.slice a vn cap] 30)).alloc (.cells #[.int .i64 kid] 3)) := ((hA.alloc _).alloc _).alloc _
        have hy := nq_one HVn.out q0 q1 q2 (HVa.out.adds hA')
        rw [hnd, ← HV.out]
        exact nchange_any x ⟨false, some ⟨w3.heap.size, 0, none⟩, 1, [key], ⟨some ⟨w3.heap.size + 1, 0, none⟩, 1, [⟨a, val, cap⟩]⟩, some ⟨w3.heap.size + 2, 0, none⟩, 1, [kid]⟩ k k _ (HX.out.adds hA') HSx.out hy
          ⟨by simp, by simp, by simp, fun b hb => (by rw [List.mem_singleton.1 hb]; exact HKl.out), fun b hb => (by rw [List.mem_singleton.1 hb, ← HVn.out]; exact hvl)⟩ (by rw [← HKn.out]; exact hlt) (by rw [← HKn.out]; exact hlt) (right_len HR.out.symm).1 (right_len HR.out.symm).2)
      have HBn := hid (show N.Bd 1000 nd by
        rw [hnd]
        exact (HBd.out.change (m' := 1) (y := ⟨false, [key], [val], [kid]⟩) ⟨by simp, by simp, by simp, fun b hb => (by rw [List.mem_singleton.1 hb]; exact HKl.out), fun b hb => (by rw [List.mem_singleton.1 hb, ← HVn.out]; exact hvl)⟩ (Nat.le_refl k)).mono (by decide))
      clear hnd hin
      go_upto_region 5 with (go_at_call 15; refine HC.out.mono ?_; rintro e w3 ⟨rfl, hA3⟩; have H3 := hid hA3; obtain ⟨q0, q1, q2, q3⟩ := box_cells (box_adds HB0.out hA3); clear hA3)
      clear c0 c1 c2 c3
      go_wp2_with (first
        | (go_at_call 55; refine (HCh.out w3 (HA2.out.trans H3.out)).mono ?_; rintro e w4 hp; obtain ⟨leaf, ka, kc, ks, va, vc, hs, ia, ic, zs, rfl, H4⟩ := hp.op; clear hp; have HA4 := hid ((((H3.out.alloc _).alloc _).alloc _).trans H4.out.2.2); have HWh := hid (whole_made (w1 := w) H4.out.1 H4.out.2.1 HBn.out (((((HA2.out.trans H3.out).alloc _).alloc _).alloc _).size)))
        | (go_at_call 50; refine HWh.out.mono ?_; rintro e w5 ⟨leaf5, ka5, kc5, ks5, va5, vc5, hs5, ia5, ic5, zs5, rfl, H5⟩; have HB5 := hid (box_adds HB1.out (HA4.out.trans H5.out.2.2)))
        | (refine wpList_store_row rfl 28 _ _ rfl N1 #[.bool leaf5, .slice ka5 ks5.length kc5, .slice va5 hs5.length vc5, .slice ia5 zs5.length ic5] rfl rfl 28 _ HB5.out (info4 _ _ _ _) rfl (one4 _ _ _ _ _ _ _ _ _ _) ?_))
      refine bodyPost_ret (results_n2 rfl _ _ N1 _ rfl (setRow_heap w5 N1 _ _ 28 _ HB5.out) rfl) rfl ?_
      rw [HE.out]
      exact ptnode_end (z := ⟨leaf5, ka5, kc5, ks5, ⟨va5, vc5, hs5⟩, ia5, ic5, zs5⟩) H5.out.1 rfl H5.out.2.1 ((HA2.out.trans HA4.out).trans H5.out.2.2) HB5.out HL.out _
end Go.Proofs.Ytplppnngmlljnaa

/- The chapter's example. -/
namespace Go.Proofs.Ytplppnngmlljnaa
open Go.RowKit

/-- The example's leaf. -/
def N.ex : N.Nd := ⟨true, [[97]], [[120, 121]], []⟩
theorem ex_right : N.right N.ex = true := by decide
theorem ex_taken : N.taken N.ex = 7 := by decide
theorem ex_findI : N.findI N.ex [98] = 1 := by decide
theorem ex_findB : N.findB N.ex [98] = false := by decide
theorem ex_bytesE : N.bytesE 3 N.ex = 0 := (N.bytes_is ex_right (by rw [ex_taken]; decide) (by decide)).2
theorem ex_parse : N.parse (N.bytesP 3 N.ex) = (N.ex, 0) := N.parse_put ex_right (by rw [ex_taken]; decide) (by decide)
theorem ex_len : (N.bytesP 3 N.ex).length = 256 := by
  have h := N.page_ok (no := 3) ex_right (by rw [ex_taken]; decide) (by decide)
  rw [(N.bytes_is ex_right (by rw [ex_taken]; decide) (by decide)).1]
  exact M.len_pbytes h.room
/-- The example in its memory. -/
def exM (K B V : Nat) : NM := ⟨true, some ⟨K, 0, none⟩, 1, [[97]], ⟨some ⟨V, 0, none⟩, 1, [⟨some ⟨B, 0, none⟩, [120, 121], 2⟩]⟩, none, 0, []⟩
theorem exM_nd (K B V : Nat) : (exM K B V).nd = N.ex := rfl
theorem exM_ns (K B V : Nat) : NS (exM K B V) := ⟨show 1 ≤ 1000 by decide, show 1 ≤ 1000 by decide, show 0 ≤ 1000 by decide, fun b hb => by rw [List.mem_singleton.1 hb]; decide, fun b hb => by rw [List.mem_singleton.1 hb]; show ([120, 121] : List UInt8).length ≤ 1000; decide⟩
theorem exM_nq {w : World} {K B V : Nat} {fr : Nat × Nat} (hk : w.heap[K]? = some (.cells #[Str [97]] 9)) (hb : w.heap[B]? = some (.cells #[.int .u8 120, .int .u8 121] 5 fr)) (hv : w.heap[V]? = some (.cells #[.slice (some ⟨B, 0, none⟩) 2 2] 30)) : NQ w (fun _ => True) (exM K B V) := by
  refine ⟨cq_one (cellOf hk 0), fun e => (by cases e), Nat.le_refl _, ⟨cq_one (cellOf hv 0), fun e => (by cases e), fun p hp => ?_⟩, Nat.le_refl _, CQ.nil _ _ _, fun _ => rfl, Nat.le_refl _⟩
  rw [List.mem_singleton.1 hp]
  refine ⟨fun j u hj => ?_, fun e => (by cases e)⟩
  match j, hj with
  | 0, hj => exact ⟨B, 0, rfl, trivial, by rw [cellOf hb]; exact hj⟩
  | 1, hj => exact ⟨B, 0, rfl, trivial, by rw [cellOf hb]; exact hj⟩
theorem ex_bd : N.Bd 900 N.ex := ⟨by decide, by decide, by decide, by decide, by decide⟩
theorem rng_of {w : World} {N : Nat} {cs : List Value} {t : TypeId} {fr : Nat × Nat} (hb : w.heap[N]? = some (.cells cs.toArray t fr)) : w.rangeAt N 0 cs := fun j v hv => by
  rw [cellOf hb]
  simpa using hv
/-- A node that is told, its parts by name. -/
def PTnd (w : World) (n : N.Nd) (er : Int) (e : Ending) (w' : World) : Prop := ∃ (l : Bool) (ka : Option Addr) (kc : Nat) (ks : List (List UInt8)) (g : Pl) (ia : Option Addr) (ic : Nat) (is : List Int), e = .returned (.tuple #[.agg #[.bool l, .slice ka ks.length kc, .slice g.a g.l.length g.cap, .slice ia is.length ic], .int .i64 er]) ∧ Hid ((⟨l, ka, kc, ks, g, ia, ic, is⟩ : NM).nd = n ∧ NOwn w' w.heap.size ⟨l, ka, kc, ks, g, ia, ic, is⟩ ∧ Adds w w')
theorem PTnode.nd {f : Nat} {args : Array Value} {w : World} {R : N.Nd × Nat} {n : N.Nd} {er : Nat} (h : Calls Try.prog f args w (PTnode w R)) (hR : R = (n, er)) : Calls Try.prog f args w (PTnd w n (er : Int)) := by
  subst hR
  refine h.mono ?_
  rintro e w' ⟨z, rfl, H⟩
  obtain ⟨l, ka, kc, ks, g, ia, ic, is⟩ := z
  exact ⟨l, ka, kc, ks, g, ia, ic, is, rfl, H⟩
/-- A page that is told, its length by name. -/
def PPg (w : World) (bs : List UInt8) (n : Nat) (er : Int) (e : Ending) (w' : World) : Prop := ∃ a cap, e = .returned (.tuple #[.slice a n cap, .int .i64 er]) ∧ Hid (At w' a bs ∧ n ≤ cap ∧ Adds w w')
theorem PTold.pg {f : Nat} {args : Array Value} {w : World} {bs : List UInt8} {er n : Nat} (h : Calls Try.prog f args w (PTold w bs er)) (hn : bs.length = n) : Calls Try.prog f args w (PPg w bs n (er : Int)) := by
  subst hn
  refine h.mono ?_
  rintro e w' ⟨a, cap, rfl, H⟩
  exact ⟨a, cap, rfl, H.out.1, H.out.2.1, H.out.2.2.2⟩
set_option maxRecDepth 100000 in
set_option maxHeartbeats 4000000 in
theorem works14 (w : World) : Calls Try.prog 21 #[] w (Adding (.bool true) w) := by
  have hz : (w.alloc (.cells #[.string ⟨#[97]⟩] 9)).heap.size = w.heap.size + 1 := by simp
  have hcc := Lib.run_convert_bytes_const (P := Try.prog) (w.alloc (.cells #[.string ⟨#[97]⟩] 9)) 30 5 #[.int .u8 120, .int .u8 121] 2 2 Try.underlying30 Try.underlying5
  rw [hz] at hcc
  go_enter Try.func21, Try.ntmps21
  go_upto_region 2 with (refine wpList_store_row rfl 28 _ _ rfl _ #[.bool true, .slice (some ⟨_, 0, none⟩) 1 1, .slice (some ⟨_, 0, none⟩) 1 1, .slice none 0 0] rfl rfl 28 _ (heap_alloc_new _ _) (info4 _ _ _ _) rfl (one4 _ _ _ _ _ _ _ _ _ _) ?_)
  obtain ⟨N0, hN0⟩ : ∃ N0, N0 = w.heap.size := ⟨_, rfl⟩
  rw [← hN0]
  obtain ⟨w4, hw4⟩ : ∃ w4, w4 = (((w.alloc (.cells #[.string ⟨#[97]⟩] 9)).alloc (.cells #[.int .u8 120, .int .u8 121] 5 (2, 3))).alloc (.cells #[.slice (some ⟨N0 + 1, 0, none⟩) 2 2] 30)).alloc (.cells #[.bool true, .slice (some ⟨N0, 0, none⟩) 1 1, .slice (some ⟨N0 + 1 + 1, 0, none⟩) 1 1, .slice none 0 0] 28) := ⟨_, rfl⟩
  rw [← hw4]
  have e2 : ((w.alloc (.cells #[.string ⟨#[97]⟩] 9)).alloc (.cells #[.int .u8 120, .int .u8 121] 5 (2, 3))).heap.size = N0 + 1 + 1 := by rw [hN0]; simp
  have e3 : (((w.alloc (.cells #[.string ⟨#[97]⟩] 9)).alloc (.cells #[.int .u8 120, .int .u8 121] 5 (2, 3))).alloc (.cells #[.slice (some ⟨N0 + 1, 0, none⟩) 2 2] 30)).heap.size = N0 + 1 + 1 + 1 := by rw [hN0]; simp
  have HA4 := hid (show Adds w w4 by rw [hw4]; exact ((((Touch.refl _ w).alloc _).alloc _).alloc _).alloc _)
  have HK := hid (show w4.heap[N0]? = some (.cells #[Str [97]] 9) by rw [hw4, hN0]; exact box_adds (heap_alloc_new w _) (((Touch.refl _ _).alloc _).alloc _ |>.alloc _))
  have HB := hid (show w4.heap[N0 + 1]? = some (.cells #[.int .u8 120, .int .u8 121] 5 (2, 3)) by rw [hw4, hN0, ← hz]; exact box_adds (heap_alloc_new _ _) (((Touch.refl _ _).alloc _).alloc _))
  have HV := hid (show w4.heap[N0 + 1 + 1]? = some (.cells #[.slice (some ⟨N0 + 1, 0, none⟩) 2 2] 30) by rw [hw4, ← e2]; exact box_adds (heap_alloc_new _ _) ((Touch.refl _ _).alloc _))
  have HX := hid (show w4.heap[N0 + 1 + 1 + 1]? = some (.cells #[.bool true, .slice (some ⟨N0, 0, none⟩) 1 1, .slice (some ⟨N0 + 1 + 1, 0, none⟩) 1 1, .slice none 0 0] 28) by rw [hw4, ← e3]; exact heap_alloc_new _ _)
  have HQ := hid (exM_nq HK.out HB.out HV.out)
  clear hw4 e2 e3 hz hcc
  obtain ⟨N3, hN3⟩ : ∃ N3, N3 = N0 + 1 + 1 + 1 := ⟨_, rfl⟩
  rw [← hN3] at HX ⊢
  clear hN3
  obtain ⟨V, hV⟩ : ∃ V, V = N0 + 1 + 1 := ⟨_, rfl⟩
  rw [← hV] at HX HQ ⊢
  clear hV HK HB HV hN0
  have HS := exM_ns N0 (N0 + 1) V
  have HF := hid (fun w' (hA : Adds w4 w') => show Calls Try.prog 13 #[.agg #[.bool true, .slice (some ⟨N0, 0, none⟩) 1 1, .slice (some ⟨V, 0, none⟩) 1 1, .slice none 0 0], .string ⟨#[98]⟩] w' (Adding (.tuple #[.int .i64 1, .bool false]) w') by
    have q := nfind_any _ [98] w' (HQ.out.adds hA) HS
    rw [exM_nd, ex_findI, ex_findB] at q
    exact q)
  have HBy := hid (fun w' (hA : Adds w4 w') => show Calls Try.prog 11 #[.int .i64 3, .agg #[.bool true, .slice (some ⟨N0, 0, none⟩) 1 1, .slice (some ⟨V, 0, none⟩) 1 1, .slice none 0 0]] w' (PPg w' (N.bytesP 3 N.ex) 256 0) by
    have q := nbytes_any _ 3 w' (HQ.out.adds hA) HS
    rw [exM_nd, ex_bytesE] at q
    exact PTold.pg q ex_len)
  have HR := hid (fun w' (hA : Adds w4 w') => show Calls Try.prog 15 #[.agg #[.bool true, .slice (some ⟨N0, 0, none⟩) 1 1, .slice (some ⟨V, 0, none⟩) 1 1, .slice none 0 0]] w' (Adding (.bool true) w') by
    have q := nright_any _ w' (HQ.out.adds hA) HS
    rw [exM_nd, ex_right] at q
    exact q)
  have HT := hid (fun w' (hA : Adds w4 w') => show Calls Try.prog 17 #[.agg #[.bool true, .slice (some ⟨N0, 0, none⟩) 1 1, .slice (some ⟨V, 0, none⟩) 1 1, .slice none 0 0]] w' (Adding (.int .i64 7) w') by
    have q := ntaken_any _ w' (HQ.out.adds hA) HS
    rw [exM_nd, ex_taken] at q
    exact q)
  have HFi := hid (fun w' (hA : Adds w4 w') => show Calls Try.prog 19 #[.agg #[.bool true, .slice (some ⟨N0, 0, none⟩) 1 1, .slice (some ⟨V, 0, none⟩) 1 1, .slice none 0 0]] w' (Adding (.bool true) w') by
    have q := nfits_any _ w' (HQ.out.adds hA) HS
    rw [exM_nd, ex_right, ex_taken] at q
    exact q)
  have HPa := hid (fun (w' : World) (a : Option Addr) (cap : Nat) (hc : 256 ≤ cap) (hA : At w' a (N.bytesP 3 N.ex)) => show Calls Try.prog 22 #[.slice a 256 cap] w' (PTnd w' N.ex 0) from PTnode.nd (nparse_any a (N.bytesP 3 N.ex) 256 cap w' ex_len hc hA) ex_parse)
  obtain ⟨bs, hbs⟩ : ∃ bs, bs = N.bytesP 3 N.ex := ⟨_, rfl⟩
  rw [← hbs] at HBy HPa
  clear hbs
  have HSm := hid (fun (w' w0 : World) (l : Bool) (ka : Option Addr) (kc : Nat) (ks : List (List UInt8)) (g : Pl) (ia : Option Addr) (ic : Nat) (is : List Int) (hA : Adds w4 w') (hz : (⟨l, ka, kc, ks, g, ia, ic, is⟩ : NM).nd = N.ex) (ho : NOwn w' w0.heap.size ⟨l, ka, kc, ks, g, ia, ic, is⟩) => show Calls Try.prog 20 #[.agg #[.bool l, .slice ka ks.length kc, .slice g.a g.l.length g.cap, .slice ia is.length ic], .agg #[.bool true, .slice (some ⟨N0, 0, none⟩) 1 1, .slice (some ⟨V, 0, none⟩) 1 1, .slice none 0 0]] w' (Adding (.bool true) w') by
    have q := same_any ⟨l, ka, kc, ks, g, ia, ic, is⟩ _ w' ho.nq (HQ.out.adds hA) (N.Bd.ns (m := 900) (by rw [hz]; exact ex_bd) (by decide)) HS
    rw [exM_nd, hz, N.same_refl] at q
    exact q)
  clear HQ HS
  go_upto_region 3 with (first
    | (refine wpList_load_row rfl 28 _ rfl N3 rfl 28 _ _ _ HX.out Try.underlying28 rfl (info4 _ _ _ _) ?_)
    | (go_at_call 13; refine (HF.out w4 (Touch.refl _ _)).mono ?_; rintro e w5 ⟨rfl, hA5⟩; have A5 := hid hA5; clear hA5))
  have X5 := hid (box_adds HX.out A5.out)
  clear HF
  go_upto_region 4 with (first
    | (refine wpList_load_row rfl 28 _ rfl N3 rfl 28 _ _ _ X5.out Try.underlying28 rfl (info4 _ _ _ _) ?_)
    | (go_at_call 11; refine (HBy.out w5 A5.out).mono ?_; rintro e w6 ⟨a, cap, rfl, H6⟩))
  have A6 := hid (A5.out.trans H6.out.2.2)
  clear HBy
  go_upto_region 5 with (first
    | (go_at_call 22; refine (HPa.out w6 a cap H6.out.2.1 H6.out.1).mono ?_; rintro e w7 ⟨l, ka, kc, ks, g, ia, ic, is, rfl, H7⟩)
    | (refine wpList_store_row rfl 28 _ _ rfl _ #[.bool l, .slice ka ks.length kc, .slice g.a g.l.length g.cap, .slice ia is.length ic] rfl rfl 28 _ (heap_alloc_new _ _) (info4 _ _ _ _) rfl (one4 _ _ _ _ _ _ _ _ _ _) ?_))
  obtain ⟨N6, hN6⟩ : ∃ N6, N6 = w7.heap.size := ⟨_, rfl⟩
  rw [← hN6]
  obtain ⟨w8, hw8⟩ : ∃ w8, w8 = (w7.alloc NZ).setRow N6 #[.bool l, .slice ka ks.length kc, .slice g.a g.l.length g.cap, .slice ia is.length ic] := ⟨_, rfl⟩
  have hA78 : Adds w7 w8 := by rw [hw8, hN6]; exact Touch.setRow (T := fun _ => False) ((Touch.refl _ _).alloc _) (fun c => absurd c (by omega)) _
  have Y8 := hid (show w8.heap[N6]? = some (.cells #[.bool l, .slice ka ks.length kc, .slice g.a g.l.length g.cap, .slice ia is.length ic] 28) by rw [hw8, hN6]; exact setRow_heap _ _ _ _ 28 _ (heap_alloc_new w7 NZ))
  rw [← hw8]
  clear hw8 hN6
  have HO := hid (H7.out.2.1.adds hA78)
  have A8 := hid (A6.out.trans (H7.out.2.2.trans hA78))
  have X8 := hid (box_adds HX.out A8.out)
  clear hA78
  go_wp2_with (first
    | (refine wpList_load_row rfl 28 _ rfl N3 rfl 28 _ _ _ X8.out Try.underlying28 rfl (info4 _ _ _ _) ?_)
    | (refine wpList_load_g (by rfl) 28 _ rfl N3 0 rfl [.bool true, .slice (some ⟨N0, 0, none⟩) 1 1, .slice (some ⟨V, 0, none⟩) 1 1, .slice none 0 0] _ (rng_of (box_adds X8.out A11.out)) Try.underlying28 rfl infoN.out ?_)
    | (refine wpList_load_g (by rfl) 28 _ rfl N3 0 rfl [.bool true, .slice (some ⟨N0, 0, none⟩) 1 1, .slice (some ⟨V, 0, none⟩) 1 1, .slice none 0 0] _ (rng_of (box_adds X8.out A10.out)) Try.underlying28 rfl infoN.out ?_)
    | (refine wpList_load_g (by rfl) 28 _ rfl N3 0 rfl [.bool true, .slice (some ⟨N0, 0, none⟩) 1 1, .slice (some ⟨V, 0, none⟩) 1 1, .slice none 0 0] _ (rng_of (box_adds X8.out A9.out)) Try.underlying28 rfl infoN.out ?_)
    | (refine wpList_load_g (by rfl) 28 _ rfl N6 0 rfl [.bool l, .slice ka ks.length kc, .slice g.a g.l.length g.cap, .slice ia is.length ic] _ (rng_of (box_adds Y8.out A11.out)) Try.underlying28 rfl infoN.out ?_)
    | (go_at_call 15; refine (HR.out w8 A8.out).mono ?_; rintro e w9 ⟨rfl, hA9⟩; have A9 := hid hA9; clear hA9)
    | (go_at_call 17; refine (HT.out w9 (A8.out.trans A9.out)).mono ?_; rintro e w10 ⟨rfl, hA10⟩; have A10 := hid (A9.out.trans hA10); clear hA10)
    | (go_at_call 19; refine (HFi.out w10 (A8.out.trans A10.out)).mono ?_; rintro e w11 ⟨rfl, hA11⟩; have A11 := hid (A10.out.trans hA11); clear hA11)
    | (go_at_call 20; refine (HSm.out w11 w6 l ka kc ks g ia ic is (A8.out.trans A11.out) H7.out.1 (HO.out.adds A11.out)).mono ?_; rintro e w12 ⟨rfl, hA12⟩; have A12 := hid (A11.out.trans hA12); clear hA12))
  go_ret
  exact ⟨rfl, HA4.out.trans (A8.out.trans A12.out)⟩
end Go.Proofs.Ytplppnngmlljnaa

/- NodeBack. -/
namespace Go.Proofs.Ytplppnngmlljnaa
open Go.RowKit

theorem infoRN : Hid ((Try.prog.info? 26).map (·.size) = some 4) := show (Try.prog.info? 26).map (·.size) = some 4 by kernel_rfl
theorem infoR4 (a b c d : Value) : (Try.prog.info? 26).map (·.size) = some (#[a, b, c, d] : Array Value).size := infoRN.out
def PNd (w : World) (n : N.Nd) (e : Ending) (w' : World) : Prop := ∃ (l : Bool) (ka : Option Addr) (kc : Nat) (ks : List (List UInt8)) (g : Pl) (ia : Option Addr) (ic : Nat) (is : List Int), e = .returned (.agg #[.bool l, .slice ka ks.length kc, .slice g.a g.l.length g.cap, .slice ia is.length ic]) ∧ Hid ((⟨l, ka, kc, ks, g, ia, ic, is⟩ : NM).nd = n ∧ NOwn w' w.heap.size ⟨l, ka, kc, ks, g, ia, ic, is⟩ ∧ Adds w w')
theorem PNode.nd {f : Nat} {args : Array Value} {w : World} {n : N.Nd} (h : Calls Try.prog f args w (PNode w n)) : Calls Try.prog f args w (PNd w n) := by
  refine h.mono ?_
  rintro e w' ⟨z, rfl, H⟩
  obtain ⟨l, ka, kc, ks, g, ia, ic, is⟩ := z
  exact ⟨l, ka, kc, ks, g, ia, ic, is, rfl, H⟩
/-- A node that was told, put into a block. -/
theorem boxed {w w1 w7 w8 : World} {N6 : Nat} {l : Bool} {ka : Option Addr} {kc : Nat} {ks : List (List UInt8)} {g : Pl} {ia : Option Addr} {ic : Nat} {is : List Int} {n : N.Nd} (h : (⟨l, ka, kc, ks, g, ia, ic, is⟩ : NM).nd = n ∧ NOwn w7 w.heap.size ⟨l, ka, kc, ks, g, ia, ic, is⟩ ∧ Adds w1 w7) (hN : N6 = w7.heap.size) (hw : w8 = (w7.alloc NZ).setRow N6 #[.bool l, .slice ka ks.length kc, .slice g.a g.l.length g.cap, .slice ia is.length ic]) :
    NOwn w8 w.heap.size ⟨l, ka, kc, ks, g, ia, ic, is⟩ ∧ w8.heap[N6]? = some (.cells #[.bool l, .slice ka ks.length kc, .slice g.a g.l.length g.cap, .slice ia is.length ic] 28) ∧ Adds w1 w8 := by
  have hA : Adds w7 w8 := by rw [hw, hN]; exact Touch.setRow (T := fun _ => False) ((Touch.refl _ _).alloc _) (fun c => absurd c (by omega)) _
  exact ⟨h.2.1.adds hA, by rw [hw, hN]; exact setRow_heap _ _ _ _ 28 _ (heap_alloc_new w7 NZ), h.2.2.trans hA⟩
end Go.Proofs.Ytplppnngmlljnaa

/- The reference: whether a node may be. -/
namespace Go.Proofs.Ytplppnngmlljnaa
open Go.RowKit

theorem valsOk_no {l : List (List UInt8)} {i : Nat} (hi : i < l.length) (h : 49 < (l.getD i []).length) : N.valsOk l = false := by
  unfold N.valsOk
  rw [List.all_eq_false]
  refine ⟨l[i], List.getElem_mem hi, ?_⟩
  rw [List.getD_eq_getElem?_getD, List.getElem?_eq_getElem hi] at h
  simpa using h
theorem valsOk_yes {l : List (List UInt8)} (h : ∀ j, j < l.length → ¬ 49 < (l.getD j []).length) : N.valsOk l = true := by
  unfold N.valsOk
  rw [List.all_eq_true]
  intro x hx
  obtain ⟨i, hi, rfl⟩ := List.mem_iff_getElem.1 hx
  have q := h i hi
  rw [List.getD_eq_getElem?_getD, List.getElem?_eq_getElem hi] at q
  simpa using q
theorem kidsOk_no {l : List Int} {i : Nat} (hi : i < l.length) (h : l.getD i 0 < 0 ∨ 2147483647 < l.getD i 0) : N.kidsOk l = false := by
  unfold N.kidsOk
  rw [List.all_eq_false]
  refine ⟨l[i], List.getElem_mem hi, ?_⟩
  rw [List.getD_eq_getElem?_getD, List.getElem?_eq_getElem hi] at h
  have h' : l[i] < 0 ∨ 2147483647 < l[i] := h
  simp
  omega
theorem kidsOk_yes {l : List Int} (h : ∀ j, j < l.length → 0 ≤ l.getD j 0 ∧ l.getD j 0 ≤ 2147483647) : N.kidsOk l = true := by
  unfold N.kidsOk
  rw [List.all_eq_true]
  intro x hx
  obtain ⟨i, hi, rfl⟩ := List.mem_iff_getElem.1 hx
  have q := h i hi
  rw [List.getD_eq_getElem?_getD, List.getElem?_eq_getElem hi] at q
  have q' : 0 ≤ l[i] ∧ l[i] ≤ 2147483647 := q
  simp
  omega
set_option maxRecDepth 100000 in
set_option maxHeartbeats 8000000 in
theorem rright_any (x : NM) (w : World) {Q : Nat → Prop} (h : NQ w Q x) (hs : NS x) : Calls Try.prog 16 #[x.val] w (Adding (.bool (N.right x.nd)) w) := by
  obtain ⟨leaf, ka, kc, ks, g, ia, ic, zs⟩ := x
  have HQ := hid h
  have HS := hid hs
  obtain ⟨r, hr⟩ : ∃ r, r = N.right (NM.nd ⟨leaf, ka, kc, ks, g, ia, ic, zs⟩) := ⟨_, rfl⟩
  have HRr := hid hr
  rw [← hr]
  clear hr h hs
  obtain ⟨kn, hkn⟩ : ∃ kn, kn = ks.length := ⟨_, rfl⟩
  obtain ⟨vn, hvn⟩ : ∃ vn, vn = g.l.length := ⟨_, rfl⟩
  obtain ⟨zn, hzn⟩ : ∃ zn, zn = zs.length := ⟨_, rfl⟩
  unfold NM.val NM.kv NM.vv NM.iv
  simp only [← hkn, ← hvn, ← hzn]
  have HKn := hid hkn
  have HVn := hid hvn
  have HZn := hid hzn
  have hk9 : kn ≤ 1000 := by rw [hkn]; exact HS.out.k
  have hv9 : vn ≤ 1000 := by rw [hvn]; exact HS.out.v
  have hz9 : zn ≤ 1000 := by rw [hzn]; exact HS.out.i
  clear hkn hvn hzn
  obtain ⟨N0, hN0⟩ : ∃ N0, N0 = w.heap.size := ⟨_, rfl⟩
  obtain ⟨w1, hw1⟩ : ∃ w1, w1 = w.alloc (.cells #[.bool leaf, .slice ka kn kc, .slice g.a vn g.cap, .slice ia zn ic] 26) := ⟨_, rfl⟩
  have HA1 := hid (show Adds w w1 by rw [hw1]; exact (Touch.refl _ w).alloc _)
  have hbx : w1.heap[N0]? = some (.cells #[.bool leaf, .slice ka kn kc, .slice g.a vn g.cap, .slice ia zn ic] 26) := by rw [hw1, hN0]; exact heap_alloc_new w _
  have HBx := hid hbx
  clear hbx
  go_enter Try.func16, Try.ntmps16
  go_upto_region 1 with fail
  rw [← hw1, ← hN0]
  clear hw1 hN0
  go_upto_region 2 with fail
  go_loopw [3] (fun t wx => ∃ i : Nat, i ≤ kn ∧ t = .int .i64 (i : Int) ∧ Hid (Adds w1 wx ∧ ∀ j, j < i → N.badAt ks j = false)) (fun t _ => kn - (intOf t).toNat)
  case atStart => exact ⟨0, Nat.zero_le _, rfl, Touch.refl _ _, fun j h => by omega⟩
  case round =>
    obtain ⟨i, hi, rfl, HJ⟩ := hrel
    obtain ⟨b0, b1, b2, b3⟩ := box_cells (box_adds HBx.out HJ.out.1)
    by_cases hlt : i < kn
    · have hlz : (i : Int) < (kn : Int) := by omega
      have hi2 : i < ks.length := by rw [← HKn.out]; exact hlt
      obtain ⟨b, o, ea, hc0⟩ := HQ.out.key hi2
      have ea' : ka = some ⟨b, o, none⟩ := ea
      rw [ea'] at b1 ⊢
      obtain ⟨k, hk⟩ : ∃ k, k = ks.getD i [] := ⟨_, rfl⟩
      have hc := below_adds (HA1.out.trans HJ.out.1) hc0
      rw [show Str ((⟨leaf, ka, kc, ks, g, ia, ic, zs⟩ : NM).ks.getD i []) = .string ⟨k.toArray⟩ by rw [hk]; rfl] at hc
      have HK := hid hk
      have HI2 := hid hi2
      have HE := hid ea
      clear hc0 hk hi2 ea ea'
      by_cases h40 : 40 < k.length
      · have h40z : (40 : Int) < (k.length : Int) := by omega
        have h40d : decide ((40 : Int) < (k.length : Int)) = true := decide_eq_true h40z
        go_upto_region 4 with fail
        go_quiet (fail)
        go_wp2
        go_ret
        exact ⟨congrArg (fun z => Ending.returned (Value.bool z)) (show false = r by rw [HRr.out, right_keys (n := NM.nd ⟨leaf, _, kc, ks, g, ia, ic, zs⟩) (show N.keysOk ks = false from keysOk_no HI2.out (by unfold N.badAt; rw [← HK.out, decide_eq_true h40]; rfl))]), (HA1.out.trans HJ.out.1).trans (adds_drewN _ _)⟩
      · have h40z : ¬ (40 : Int) < (k.length : Int) := by omega
        have h40d : decide ((40 : Int) < (k.length : Int)) = false := decide_eq_false h40z
        by_cases h0 : i = 0
        · have h0z : ¬ (0 : Int) < (i : Int) := by omega
          have h0d : decide ((0 : Int) < (i : Int)) = false := decide_eq_false h0z
          have h0n : decide (0 < i) = false := decide_eq_false (by omega)
          have H0 := hid h0
          clear h0
          go_upto_region 4 with fail
          go_quiet (fail)
          go_wp2
          go_roundw
          case rel =>
            refine ⟨i + 1, by omega, by go_num, HJ.out.1.trans (adds_drewN _ _), fun j hj => ?_⟩
            obtain rfl : j = 0 := by have := H0.out; omega
            show N.badAt ks 0 = false
            unfold N.badAt
            rw [← H0.out, ← HK.out, decide_eq_false h40, H0.out]; rfl
          case measure => simp [intOf]; omega
        · obtain ⟨j0, hj0⟩ : ∃ j0, i = j0 + 1 := ⟨i - 1, by omega⟩
          have h0z : (0 : Int) < (i : Int) := by omega
          have h0d : decide ((0 : Int) < (i : Int)) = true := decide_eq_true h0z
          have h0n : decide (0 < i) = true := decide_eq_true (by omega)
          have hj1 : (i : Int) - 1 = (j0 : Int) := by omega
          have HJ0 := hid hj0
          have hj9 : j0 < kn := by omega
          have hj9z : (j0 : Int) < (kn : Int) := by omega
          clear hj0 h0
          obtain ⟨b', o', ea, hp0⟩ := HQ.out.key (i := j0) (by have := HI2.out; have := HJ0.out; show j0 < ks.length; omega)
          have hbo : b' = b ∧ o' = o := by
            have := ea.symm.trans HE.out
            injection this with q
            injection q with q1 q2 q3
            exact ⟨q1, q2⟩
          obtain ⟨rfl, rfl⟩ := hbo
          obtain ⟨p, hp⟩ : ∃ p, p = ks.getD j0 [] := ⟨_, rfl⟩
          have hpc := below_adds (HA1.out.trans HJ.out.1) hp0
          rw [show Str ((⟨leaf, ka, kc, ks, g, ia, ic, zs⟩ : NM).ks.getD j0 []) = .string ⟨p.toArray⟩ by rw [hp]; rfl] at hpc
          have HP := hid hp
          clear hp0 hp ea
          obtain ⟨a1, e1⟩ : ∃ a1, Op.bytesLess p k = a1 := ⟨_, rfl⟩
          have HZ := hid (show N.badAt ks i = !a1 by
            unfold N.badAt
            rw [← HK.out, decide_eq_false h40, show i - 1 = j0 by have := HJ0.out; omega, ← HP.out, decide_eq_true (show 0 < i by have := HJ0.out; omega), ← e1]
            rfl)
          have hbad : (!a1) = true → N.right (NM.nd ⟨leaf, some ⟨b', o', none⟩, kc, ks, g, ia, ic, zs⟩) = false := fun h => right_keys (show N.keysOk ks = false from keysOk_no HI2.out (by rw [HZ.out]; exact h))
          have HBad := hid hbad
          clear hbad
          cases a1 with
          | false =>
            go_upto_region 4 with fail
            go_quiet (fail)
            go_wp2
            go_ret
            exact ⟨congrArg (fun z => Ending.returned (Value.bool z)) (show false = r by rw [HRr.out]; exact (HBad.out rfl).symm), (HA1.out.trans HJ.out.1).trans (adds_drewN _ _)⟩
          | true =>
            go_upto_region 4 with fail
            go_quiet (fail)
            go_wp2
            go_roundw
            case rel =>
              refine ⟨i + 1, by omega, by go_num, HJ.out.1.trans (adds_drewN _ _), fun j hj => ?_⟩
              rcases Nat.lt_or_eq_of_le (Nat.le_of_lt_succ hj) with q | q
              · exact HJ.out.2 j q
              · rw [q]; exact HZ.out
            case measure => simp [intOf]; omega
    · obtain rfl : i = kn := by omega
      have hlz : ¬ (i : Int) < (i : Int) := by omega
      have HOk := hid (show N.keysOk ks = true from keysOk_yes fun j hj => HJ.out.2 j (by rw [HKn.out]; exact hj))
      cases leaf with
      | true =>
        have HF := hid (show r = ((decide (vn = i) && decide (zn = 0)) && N.valsOk g.bs) by
          rw [HRr.out, right_leaf (n := NM.nd ⟨true, ka, kc, ks, g, ia, ic, zs⟩) HOk.out rfl, HVn.out, HZn.out, HKn.out]
          show (decide (g.bs.length = _) && _ && _) = _
          rw [show g.bs.length = g.l.length from List.length_map _]; rfl)
        clear HRr hlt hi
        obtain ⟨ga, hga⟩ : ∃ a, a = g.a := ⟨_, rfl⟩
        have HGa := hid hga
        rw [← hga] at b2 HBx ⊢
        clear hga
        go_upto_region 8 with fail
        clear b0 b1 b2 b3
        go_loopw [4] (fun t wx => ∃ u : Nat, u ≤ vn ∧ t = .int .i64 (u : Int) ∧ Hid (Adds w1 wx ∧ ∀ j, j < u → ¬ 49 < (g.bs.getD j []).length)) (fun t _ => vn - (intOf t).toNat)
        case atStart => exact ⟨0, Nat.zero_le _, rfl, HJ.out.1, fun j h => by omega⟩
        case round =>
          obtain ⟨u, hu, rfl, HV⟩ := hrel
          obtain ⟨b0, b1, b2, b3⟩ := box_cells (box_adds HBx.out HV.out.1)
          by_cases hult : u < vn
          · have hulz : (u : Int) < (vn : Int) := by omega
            have hu1 : u < g.l.length := by rw [← HVn.out]; exact hult
            obtain ⟨b, o, ea, hc0⟩ := HQ.out.vals.cell hu1
            obtain ⟨p, hp⟩ : ∃ p, p = g.l[u] := ⟨_, rfl⟩
            obtain ⟨m, hm⟩ : ∃ m, m = p.bs.length := ⟨_, rfl⟩
            obtain ⟨pa, hpa⟩ : ∃ a, a = p.a := ⟨_, rfl⟩
            obtain ⟨pc, hpc⟩ : ∃ a, a = p.cap := ⟨_, rfl⟩
            have hc := below_adds (HA1.out.trans HV.out.1) hc0
            rw [show PV ((⟨true, ka, kc, ks, g, ia, ic, zs⟩ : NM).v.l[u]'hu1) = .slice pa m pc by rw [hm, hpa, hpc, hp]] at hc
            have HM := hid (show m = (g.bs.getD u []).length by rw [hm, hp, Pl.bs, List.getD_eq_getElem?_getD, List.getElem?_map, List.getElem?_eq_getElem hu1]; rfl)
            have HU := hid (show u < g.bs.length by rw [show g.bs.length = g.l.length from List.length_map _]; exact hu1)
            have ea' : ga = some ⟨b, o, none⟩ := by rw [HGa.out]; exact ea
            rw [ea'] at b2 ⊢
            clear hc0 hp hm hpa hpc ea ea' hu1
            by_cases h49 : 49 < m
            · have h49z : (49 : Int) < (m : Int) := by omega
              go_wp2_with fail
              go_ret
              exact ⟨congrArg (fun z => Ending.returned (Value.bool z)) (show false = r by rw [HF.out, valsOk_no HU.out (by rw [← HM.out]; exact h49)]; simp), HA1.out.trans HV.out.1⟩
            · have h49z : ¬ (49 : Int) < (m : Int) := by omega
              go_wp2_with fail
              go_roundw
              case rel =>
                refine ⟨u + 1, by omega, by go_num, HV.out.1, fun j hj => ?_⟩
                rcases Nat.lt_or_eq_of_le (Nat.le_of_lt_succ hj) with q | q
                · exact HV.out.2 j q
                · rw [q, ← HM.out]; exact h49
              case measure => simp [intOf]; omega
          · obtain rfl : u = vn := by omega
            have hulz : ¬ (u : Int) < (u : Int) := by omega
            have hok : N.valsOk g.bs = true := valsOk_yes fun j hj => HV.out.2 j (by rw [HVn.out, ← show g.bs.length = g.l.length from List.length_map _]; exact hj)
            rw [hok, Bool.and_true] at HF
            clear hok hult
            by_cases hv : u = i
            · have hvz : ((u : Int) = (i : Int)) := by omega
              have hvd : ((u : Int) == (i : Int)) = true := by simp [hv]
              have HV2 := hid hv
              clear hv hvz
              by_cases hz : zn = 0
              · subst hz
                go_wp2_with fail
                go_ret
                exact ⟨congrArg (fun z => Ending.returned (Value.bool z)) (show true = r by rw [HF.out]; simp [HV2.out]), HA1.out.trans HV.out.1⟩
              · have hzz : ¬ ((zn : Int) = 0) := by omega
                have hzd : ((zn : Int) == 0) = false := by simpa using hz
                go_wp2_with fail
                go_ret
                exact ⟨congrArg (fun z => Ending.returned (Value.bool z)) (show false = r by rw [HF.out]; simp [hz]), HA1.out.trans HV.out.1⟩
            · have hvz : ¬ ((u : Int) = (i : Int)) := by omega
              have hvd : ((u : Int) == (i : Int)) = false := by simp; omega
              go_wp2_with fail
              go_ret
              exact ⟨congrArg (fun z => Ending.returned (Value.bool z)) (show false = r by rw [HF.out]; simp [hv]), HA1.out.trans HV.out.1⟩
      | false =>
        have HF := hid (show r = (((decide (0 < i) && (ks.getD 0 [] == [])) && (decide (zn = i) && decide (vn = 0))) && N.kidsOk zs) by
          rw [HRr.out, right_inner (n := NM.nd ⟨false, ka, kc, ks, g, ia, ic, zs⟩) HOk.out rfl, HVn.out, HZn.out, HKn.out]
          show (((decide (0 < ks.length) && (ks.getD 0 [] == [])) && (decide (zs.length = ks.length) && decide (g.bs.length = 0))) && N.kidsOk zs) = _
          rw [show g.bs.length = g.l.length from List.length_map _])
        clear HRr hlt hi
        go_upto_region 14 with fail
        clear b0 b1 b2 b3
        go_loopw [5] (fun t wx => ∃ u : Nat, u ≤ zn ∧ t = .int .i64 (u : Int) ∧ Hid (Adds w1 wx ∧ ∀ j, j < u → 0 ≤ zs.getD j 0 ∧ zs.getD j 0 ≤ 2147483647)) (fun t _ => zn - (intOf t).toNat)
        case atStart => exact ⟨0, Nat.zero_le _, rfl, HJ.out.1, fun j h => by omega⟩
        case round =>
          obtain ⟨u, hu, rfl, HV⟩ := hrel
          obtain ⟨b0, b1, b2, b3⟩ := box_cells (box_adds HBx.out HV.out.1)
          by_cases hult : u < zn
          · have hulz : (u : Int) < (zn : Int) := by omega
            have hu1 : u < zs.length := by rw [← HZn.out]; exact hult
            obtain ⟨b, o, ea, hc0⟩ := HQ.out.kid hu1
            obtain ⟨z, hz⟩ : ∃ z, z = zs.getD u 0 := ⟨_, rfl⟩
            have hc := below_adds (HA1.out.trans HV.out.1) hc0
            rw [show (.int .i64 ((⟨false, ka, kc, ks, g, ia, ic, zs⟩ : NM).is.getD u 0) : Value) = .int .i64 z by rw [hz]] at hc
            have ea' : ia = some ⟨b, o, none⟩ := ea
            rw [ea'] at b3 ⊢
            have HU := hid hu1
            have HZz := hid hz
            clear hc0 hz ea ea' hu1
            by_cases h0 : z < 0
            · have h0d : decide (z < 0) = true := decide_eq_true h0
              go_wp2_with fail
              go_ret
              exact ⟨congrArg (fun z => Ending.returned (Value.bool z)) (show false = r by rw [HF.out, kidsOk_no HU.out (.inl (by rw [← HZz.out]; exact h0))]; simp), HA1.out.trans HV.out.1⟩
            · have h0d : decide (z < 0) = false := decide_eq_false h0
              by_cases h1 : 2147483647 < z
              · have h1d : decide (2147483647 < z) = true := decide_eq_true h1
                go_wp2_with fail
                go_ret
                exact ⟨congrArg (fun z => Ending.returned (Value.bool z)) (show false = r by rw [HF.out, kidsOk_no HU.out (.inr (by rw [← HZz.out]; exact h1))]; simp), HA1.out.trans HV.out.1⟩
              · have h1d : decide (2147483647 < z) = false := decide_eq_false h1
                go_wp2_with fail
                go_roundw
                case rel =>
                  refine ⟨u + 1, by omega, by go_num, HV.out.1, fun j hj => ?_⟩
                  rcases Nat.lt_or_eq_of_le (Nat.le_of_lt_succ hj) with q | q
                  · exact HV.out.2 j q
                  · rw [q, ← HZz.out]; omega
                case measure => simp [intOf]; omega
          · obtain rfl : u = zn := by omega
            have hulz : ¬ (u : Int) < (u : Int) := by omega
            have hok : N.kidsOk zs = true := kidsOk_yes fun j hj => HV.out.2 j (by rw [HZn.out]; exact hj)
            rw [hok, Bool.and_true] at HF
            clear hok hult
            by_cases hz : u = i
            · have hzz : ((u : Int) = (i : Int)) := by omega
              have hzd : ((u : Int) == (i : Int)) = true := by simp [hz]
              have HZ := hid hz
              clear hz hzz
              by_cases hv : vn = 0
              · subst hv
                by_cases h0 : 0 < i
                · have h0z : (0 : Int) < (i : Int) := by omega
                  have h0d : decide ((0 : Int) < (i : Int)) = true := decide_eq_true h0z
                  have h0n : decide (0 < i) = true := decide_eq_true h0
                  obtain ⟨b, o, ea, hc0⟩ := HQ.out.key (i := 0) (by show 0 < ks.length; rw [← HKn.out]; exact h0)
                  have ea' : ka = some ⟨b, o, none⟩ := ea
                  rw [ea'] at b1 ⊢
                  obtain ⟨k, hk⟩ : ∃ k, k = ks.getD 0 [] := ⟨_, rfl⟩
                  have hc := below_adds (HA1.out.trans HV.out.1) hc0
                  rw [show Str ((⟨false, ka, kc, ks, g, ia, ic, zs⟩ : NM).ks.getD 0 []) = .string ⟨k.toArray⟩ by rw [hk]; rfl, Nat.add_zero] at hc
                  rw [← hk] at HF
                  clear hc0 hk ea ea'
                  cases k with
                  | cons c l =>
                    go_wp2_with fail
                    go_ret
                    exact ⟨congrArg (fun z => Ending.returned (Value.bool z)) (show false = r by rw [HF.out]; simp), HA1.out.trans HV.out.1⟩
                  | nil =>
                    go_wp2_with fail
                    go_ret
                    exact ⟨congrArg (fun z => Ending.returned (Value.bool z)) (show true = r by rw [HF.out]; simp [HZ.out, h0]), HA1.out.trans HV.out.1⟩
                · have h0z : ¬ (0 : Int) < (i : Int) := by omega
                  have h0d : decide ((0 : Int) < (i : Int)) = false := decide_eq_false h0z
                  have h0n : decide (0 < i) = false := decide_eq_false h0
                  go_wp2_with fail
                  go_ret
                  exact ⟨congrArg (fun z => Ending.returned (Value.bool z)) (show false = r by rw [HF.out]; simp [h0]), HA1.out.trans HV.out.1⟩
              · have hvz : ¬ ((vn : Int) = 0) := by omega
                have hvd : ((vn : Int) == 0) = false := by simpa using hv
                go_wp2_with fail
                go_ret
                exact ⟨congrArg (fun z => Ending.returned (Value.bool z)) (show false = r by rw [HF.out]; simp [hv]), HA1.out.trans HV.out.1⟩
            · have hzz : ¬ ((u : Int) = (i : Int)) := by omega
              have hzd : ((u : Int) == (i : Int)) = false := by simp; omega
              go_wp2_with fail
              go_ret
              exact ⟨congrArg (fun z => Ending.returned (Value.bool z)) (show false = r by rw [HF.out]; simp [hz]), HA1.out.trans HV.out.1⟩
end Go.Proofs.Ytplppnngmlljnaa
