/- Texts put together: NRight, NRight2, NCells, NTaken. -/
import Derived.Test.YtplppnngmlljnaaQ09
import Derived.Deep.Cut
import Derived.Deep.CutRange
import Derived.Deep.MidRow
/- Texts compared; whether a node may be. -/
namespace Go.Proofs.Ytplppnngmlljnaa
open Go.RowKit

end Go.Proofs.Ytplppnngmlljnaa

/- Whether a node may be. -/
namespace Go.Proofs.Ytplppnngmlljnaa
open Go.RowKit

theorem keysOk_no {ks : List (List UInt8)} {i : Nat} (hi : i < ks.length) (h : N.badAt ks i = true) : N.keysOk ks = false := by
  unfold N.keysOk
  rw [List.all_eq_false]
  exact ⟨i, List.mem_range.2 hi, by rw [h]; decide⟩
theorem keysOk_yes {ks : List (List UInt8)} (h : ∀ j, j < ks.length → N.badAt ks j = false) : N.keysOk ks = true := by
  unfold N.keysOk
  rw [List.all_eq_true]
  exact fun i hi => by rw [h i (List.mem_range.1 hi)]; rfl
/-- The rest of what is asked, once the keys are good. -/
theorem right_keys {n : N.Nd} (h : N.keysOk n.keys = false) : N.right n = false := by unfold N.right; rw [h]; rfl
theorem right_leaf {n : N.Nd} (h : N.keysOk n.keys = true) (hl : n.leaf = true) : N.right n = ((decide (n.vals.length = n.keys.length) && decide (n.kids.length = 0)) && N.valsOk n.vals) := by unfold N.right; rw [h, hl]; rfl
theorem right_inner {n : N.Nd} (h : N.keysOk n.keys = true) (hl : n.leaf = false) : N.right n = (((decide (0 < n.keys.length) && (n.keys.getD 0 [] == [])) && (decide (n.kids.length = n.keys.length) && decide (n.vals.length = 0))) && N.kidsOk n.kids) := by unfold N.right; rw [h, hl]; rfl
set_option maxRecDepth 100000 in
set_option maxHeartbeats 4000000 in
theorem nright_any (x : NM) (w : World) {Q : Nat → Prop} (h : NQ w Q x) (hs : NS x) : Calls Try.prog 15 #[x.val] w (Adding (.bool (N.right x.nd)) w) := by
  obtain ⟨leaf, ka, kc, ks, g, ia, ic, zs⟩ := x
  have HQ := hid h
  have HS := hid hs
  have HR := hid (show ∀ w', Adds w w' → Calls Try.prog 39 _ w' _ from fun w' hA => hasFB_any g g.l.length rfl w' (h.vals.adds hA) hs.v)
  have HI := hid (show ∀ w', Adds w w' → Calls Try.prog 41 _ w' _ from fun w' hA => hasFI_any ia zs zs.length ic rfl w' (h.kids.adds hA) hs.i)
  obtain ⟨r, hr⟩ : ∃ r, r = N.right (NM.nd ⟨leaf, ka, kc, ks, g, ia, ic, zs⟩) := ⟨_, rfl⟩
  have HRr := hid hr
  rw [← hr]
  clear hr h hs
  obtain ⟨kn, hkn⟩ : ∃ kn, kn = ks.length := ⟨_, rfl⟩
  obtain ⟨vn, hvn⟩ : ∃ vn, vn = g.l.length := ⟨_, rfl⟩
  obtain ⟨zn, hzn⟩ : ∃ zn, zn = zs.length := ⟨_, rfl⟩
  unfold NM.val NM.kv NM.vv NM.iv
  simp only [← hkn, ← hvn, ← hzn]
  rw [← hvn] at HR
  rw [← hzn] at HI
  have HKn := hid hkn
  have HVn := hid hvn
  have HZn := hid hzn
  have hk9 : kn ≤ 1000 := by rw [hkn]; exact HS.out.k
  have hv9 : vn ≤ 1000 := by rw [hvn]; exact HS.out.v
  have hz9 : zn ≤ 1000 := by rw [hzn]; exact HS.out.i
  clear hkn hvn hzn
  obtain ⟨N0, hN0⟩ : ∃ N0, N0 = w.heap.size := ⟨_, rfl⟩
  obtain ⟨w1, hw1⟩ : ∃ w1, w1 = w.alloc (.cells #[.bool leaf, .slice ka kn kc, .slice g.a vn g.cap, .slice ia zn ic] 28) := ⟨_, rfl⟩
  have HA1 := hid (show Adds w w1 by rw [hw1]; exact (Touch.refl _ w).alloc _)
  have hbx : w1.heap[N0]? = some (.cells #[.bool leaf, .slice ka kn kc, .slice g.a vn g.cap, .slice ia zn ic] 28) := by rw [hw1, hN0]; exact heap_alloc_new w _
  have b0 : w1.cell? ⟨N0, 0, none⟩ = some (.bool leaf) := by rw [cellOf hbx]; rfl
  have b1 : w1.cell? ⟨N0, 1, none⟩ = some (.slice ka kn kc) := by rw [cellOf hbx]; rfl
  have b2 : w1.cell? ⟨N0, 2, none⟩ = some (.slice g.a vn g.cap) := by rw [cellOf hbx]; rfl
  have b3 : w1.cell? ⟨N0, 3, none⟩ = some (.slice ia zn ic) := by rw [cellOf hbx]; rfl
  clear hbx
  go_enter Try.func15, Try.ntmps15
  go_upto_region 1 with fail
  rw [← hw1, ← hN0]
  clear hw1 hN0
  go_wp2_with fail
  go_loopw [9] (fun t wx => ∃ i : Nat, i ≤ kn ∧ t = .int .i64 (i : Int) ∧ wx = w1 ∧ Hid (∀ j, j < i → N.badAt ks j = false)) (fun t _ => kn - (intOf t).toNat)
  case atStart => exact ⟨0, Nat.zero_le _, rfl, rfl, fun j h => by omega⟩
  case round =>
    obtain ⟨i, hi, rfl, hwx, HJ⟩ := hrel
    rw [hwx]
    clear hwx
    by_cases hlt : i < kn
    · have hlz : (i : Int) < (kn : Int) := by omega
      have hi2 : i < ks.length := by rw [← HKn.out]; exact hlt
      obtain ⟨b, o, ea, hc0⟩ := HQ.out.key hi2
      have ea' : ka = some ⟨b, o, none⟩ := ea
      rw [ea'] at b1 ⊢
      obtain ⟨k, hk⟩ : ∃ k, k = ks.getD i [] := ⟨_, rfl⟩
      have hc : w1.cell? ⟨b, o + i, none⟩ = some (.string ⟨k.toArray⟩) := by rw [hk]; exact below_adds HA1.out hc0
      have HK := hid hk
      have HI2 := hid hi2
      have HE := hid ea
      clear hc0 hk hi2 ea ea'
      by_cases h40 : 40 < k.length
      · have h40z : (40 : Int) < (k.length : Int) := by omega
        go_wp2_with fail
        go_ret
        exact ⟨congrArg (fun z => Ending.returned (Value.bool z)) (show false = r by rw [HRr.out, right_keys (n := NM.nd ⟨leaf, _, kc, ks, g, ia, ic, zs⟩) (show N.keysOk ks = false from keysOk_no HI2.out (by unfold N.badAt; rw [← HK.out, decide_eq_true h40]; rfl))]), HA1.out⟩
      · have h40z : ¬ (40 : Int) < (k.length : Int) := by omega
        by_cases h0 : i = 0
        · have h0z : ¬ (0 : Int) < (i : Int) := by omega
          have H0 := hid h0
          clear h0
          go_wp2_with fail
          go_roundw
          case rel =>
            refine ⟨i + 1, by omega, by go_num, by trivial, fun j hj => ?_⟩
            obtain rfl : j = 0 := by have := H0.out; omega
            show N.badAt ks 0 = false
            unfold N.badAt
            rw [← H0.out, ← HK.out, decide_eq_false h40, H0.out]; rfl
          case measure => simp [intOf]; omega
        · obtain ⟨j0, hj0⟩ : ∃ j0, i = j0 + 1 := ⟨i - 1, by omega⟩
          have h0z : (0 : Int) < (i : Int) := by omega
          have h0d : decide ((0 : Int) < (i : Int)) = true := decide_eq_true h0z
          have hj1 : (i : Int) - 1 = (j0 : Int) := by omega
          have HJ0 := hid hj0
          have hj9 : j0 < kn := by omega
          clear hj0 h0
          obtain ⟨b', o', ea, hp0⟩ := HQ.out.key (i := j0) (by have := HI2.out; have := HJ0.out; show j0 < ks.length; omega)
          have hbo : b' = b ∧ o' = o := by
            have := ea.symm.trans HE.out
            injection this with q
            injection q with q1 q2 q3
            exact ⟨q1, q2⟩
          obtain ⟨rfl, rfl⟩ := hbo
          obtain ⟨p, hp⟩ : ∃ p, p = ks.getD j0 [] := ⟨_, rfl⟩
          have hpc : w1.cell? ⟨b', o' + j0, none⟩ = some (.string ⟨p.toArray⟩) := by rw [hp]; exact below_adds HA1.out hp0
          have HP := hid hp
          clear hp0 hp ea
          obtain ⟨a1, e1⟩ : ∃ a1, Op.bytesLess k p = a1 := ⟨_, rfl⟩
          obtain ⟨a2, e2⟩ : ∃ a2, (k == p) = a2 := ⟨_, rfl⟩
          have HZ := hid (show N.badAt ks i = (a1 || a2) by
            unfold N.badAt
            rw [← HK.out, decide_eq_false h40, show i - 1 = j0 by have := HJ0.out; omega, ← HP.out, decide_eq_true (show 0 < i by have := HJ0.out; omega), ← N.lt_total k p, ← e1, ← e2]
            rfl)
          have hbad : (a1 || a2) = true → N.right (NM.nd ⟨leaf, some ⟨b', o', none⟩, kc, ks, g, ia, ic, zs⟩) = false := fun h => right_keys (show N.keysOk ks = false from keysOk_no HI2.out (by rw [HZ.out]; exact h))
          have HBad := hid hbad
          clear hbad
          cases a1 with
          | true =>
            go_wp2_with fail
            go_ret
            exact ⟨congrArg (fun z => Ending.returned (Value.bool z)) (show false = r by rw [HRr.out]; exact (HBad.out rfl).symm), HA1.out⟩
          | false =>
          cases a2 with
          | true =>
            go_wp2_with fail
            go_ret
            exact ⟨congrArg (fun z => Ending.returned (Value.bool z)) (show false = r by rw [HRr.out]; exact (HBad.out rfl).symm), HA1.out⟩
          | false =>
            go_wp2_with fail
            go_roundw
            case rel =>
              refine ⟨i + 1, by omega, by go_num, by trivial, fun j hj => ?_⟩
              rcases Nat.lt_or_eq_of_le (Nat.le_of_lt_succ hj) with q | q
              · exact HJ.out j q
              · rw [q]; exact HZ.out
            case measure => simp [intOf]; omega
    · obtain rfl : i = kn := by omega
      have hlz : ¬ (i : Int) < (i : Int) := by omega
      have HOk := hid (show N.keysOk ks = true from keysOk_yes fun j hj => HJ.out j (by rw [HKn.out]; exact hj))
      have HCb := hid (HR.out w1 HA1.out)
      have HCi := hid (HI.out w1 HA1.out)
      clear HJ HR HI hlt hi
      cases leaf with
      | true =>
        have HF := hid (show r = ((decide (vn = i) && decide (zn = 0)) && N.valsOk g.bs) by
          rw [HRr.out, right_leaf (n := NM.nd ⟨true, ka, kc, ks, g, ia, ic, zs⟩) HOk.out rfl, HVn.out, HZn.out, HKn.out]
          show (decide (g.bs.length = _) && _ && _) = _
          rw [show g.bs.length = g.l.length from List.length_map _]; rfl)
        clear HRr
        by_cases hv : vn = i
        · have hvz : ((vn : Int) = (i : Int)) := by omega
          have hvd : ((vn : Int) == (i : Int)) = true := by simp [hv]
          have HV := hid hv
          clear hv hvz
          by_cases hz : zn = 0
          · subst hz
            obtain ⟨q, hq⟩ : ∃ q, q = N.valsOk g.bs := ⟨_, rfl⟩
            rw [← hq] at HCb
            have HQq := hid hq
            clear hq
            cases q with
            | true =>
              go_wp2_with (go_at_call 39; refine HCb.out.mono ?_; rintro e w2 ⟨rfl, hw⟩; rw [hw]; clear hw)
              go_ret
              exact ⟨congrArg (fun z => Ending.returned (Value.bool z)) (show true = r by rw [HF.out, ← HQq.out]; simp [HV.out]), HA1.out⟩
            | false =>
              go_wp2_with (go_at_call 39; refine HCb.out.mono ?_; rintro e w2 ⟨rfl, hw⟩; rw [hw]; clear hw)
              go_ret
              exact ⟨congrArg (fun z => Ending.returned (Value.bool z)) (show false = r by rw [HF.out, ← HQq.out]; simp), HA1.out⟩
          · have hzz : ¬ ((zn : Int) = 0) := by omega
            have hzd : ((zn : Int) == 0) = false := by simpa using hz
            go_wp2_with fail
            go_ret
            exact ⟨congrArg (fun z => Ending.returned (Value.bool z)) (show false = r by rw [HF.out]; simp [hz]), HA1.out⟩
        · have hvz : ¬ ((vn : Int) = (i : Int)) := by omega
          have hvd : ((vn : Int) == (i : Int)) = false := by simp; omega
          go_wp2_with fail
          go_ret
          exact ⟨congrArg (fun z => Ending.returned (Value.bool z)) (show false = r by rw [HF.out]; simp [hv]), HA1.out⟩
      | false =>
        have HF := hid (show r = (((decide (0 < i) && (ks.getD 0 [] == [])) && (decide (zn = i) && decide (vn = 0))) && N.kidsOk zs) by
          rw [HRr.out, right_inner (n := NM.nd ⟨false, ka, kc, ks, g, ia, ic, zs⟩) HOk.out rfl, HVn.out, HZn.out, HKn.out]
          show (((decide (0 < ks.length) && (ks.getD 0 [] == [])) && (decide (zs.length = ks.length) && decide (g.bs.length = 0))) && N.kidsOk zs) = _
          rw [show g.bs.length = g.l.length from List.length_map _])
        clear HRr
        by_cases h0 : 0 < i
        · have h0z : (0 : Int) < (i : Int) := by omega
          obtain ⟨b, o, ea, hc0⟩ := HQ.out.key (i := 0) (by show 0 < ks.length; rw [← HKn.out]; exact h0)
          have ea' : ka = some ⟨b, o, none⟩ := ea
          rw [ea'] at b1 ⊢
          obtain ⟨k, hk⟩ : ∃ k, k = ks.getD 0 [] := ⟨_, rfl⟩
          have hc : w1.cell? ⟨b, o + 0, none⟩ = some (.string ⟨k.toArray⟩) := by rw [hk]; exact below_adds HA1.out hc0
          have hc' : w1.cell? ⟨b, o, none⟩ = some (.string ⟨k.toArray⟩) := hc
          rw [← hk] at HF
          clear hc0 hk ea ea'
          cases k with
          | cons c l =>
            go_wp2_with fail
            go_ret
            exact ⟨congrArg (fun z => Ending.returned (Value.bool z)) (show false = r by rw [HF.out]; simp), HA1.out⟩
          | nil =>
            by_cases hz : zn = i
            · have hzz : ((zn : Int) = (i : Int)) := by omega
              have hzd : ((zn : Int) == (i : Int)) = true := by simp [hz]
              have HZ := hid hz
              clear hz hzz
              by_cases hv : vn = 0
              · subst hv
                obtain ⟨q, hq⟩ : ∃ q, q = N.kidsOk zs := ⟨_, rfl⟩
                rw [← hq] at HCi HF
                clear hq
                cases q with
                | true =>
                  go_wp2_with (go_at_call 41; refine HCi.out.mono ?_; rintro e w2 ⟨rfl, hw⟩; rw [hw]; clear hw)
                  go_ret
                  exact ⟨congrArg (fun z => Ending.returned (Value.bool z)) (show true = r by rw [HF.out]; simp [HZ.out, h0]), HA1.out⟩
                | false =>
                  go_wp2_with (go_at_call 41; refine HCi.out.mono ?_; rintro e w2 ⟨rfl, hw⟩; rw [hw]; clear hw)
                  go_ret
                  exact ⟨congrArg (fun z => Ending.returned (Value.bool z)) (show false = r by rw [HF.out]; simp), HA1.out⟩
              · have hvz : ¬ ((vn : Int) = 0) := by omega
                have hvd : ((vn : Int) == 0) = false := by simpa using hv
                go_wp2_with fail
                go_ret
                exact ⟨congrArg (fun z => Ending.returned (Value.bool z)) (show false = r by rw [HF.out]; simp [hv]), HA1.out⟩
            · have hzz : ¬ ((zn : Int) = (i : Int)) := by omega
              have hzd : ((zn : Int) == (i : Int)) = false := by simp; omega
              go_wp2_with fail
              go_ret
              exact ⟨congrArg (fun z => Ending.returned (Value.bool z)) (show false = r by rw [HF.out]; simp [hz]), HA1.out⟩
        · have h0z : ¬ (0 : Int) < (i : Int) := by omega
          go_wp2_with fail
          go_ret
          exact ⟨congrArg (fun z => Ending.returned (Value.bool z)) (show false = r by rw [HF.out]; simp [h0]), HA1.out⟩
end Go.Proofs.Ytplppnngmlljnaa

/- A node's kind, its cells, how much it takes. -/
namespace Go.Proofs.Ytplppnngmlljnaa
open Go.RowKit

theorem infoN : Hid ((Try.prog.info? 28).map (·.size) = some 4) := show (Try.prog.info? 28).map (·.size) = some 4 by kernel_rfl
/-- The box of a node that was handed in, and what it holds. -/
theorem nbox (w : World) (leaf : Bool) (kv vv iv : Value) : ∃ N0 w1, N0 = w.heap.size ∧ w1 = w.alloc (.cells #[.bool leaf, kv, vv, iv] 28) ∧ Hid (Adds w w1) ∧ Hid (w1.rangeAt N0 0 [.bool leaf, kv, vv, iv]) ∧
    w1.cell? ⟨N0, 0, none⟩ = some (.bool leaf) ∧ w1.cell? ⟨N0, 1, none⟩ = some kv ∧ w1.cell? ⟨N0, 2, none⟩ = some vv ∧ w1.cell? ⟨N0, 3, none⟩ = some iv := by
  have hb := heap_alloc_new w (.cells #[.bool leaf, kv, vv, iv] 28)
  refine ⟨_, _, rfl, rfl, (Touch.refl _ w).alloc _, fun j v hv => ?_, by rw [cellOf hb]; rfl, by rw [cellOf hb]; rfl, by rw [cellOf hb]; rfl, by rw [cellOf hb]; rfl⟩
  rw [Nat.zero_add, cellOf hb]
  simpa using hv
/-- Bytes of one's own, as a slice. -/
theorem own_sl {w : World} {B : Nat} {v : Value} {bs : List UInt8} (h : w.ownsRow B 5 1 v bs.length (S bs)) : ∃ a cap, v = .slice a bs.length cap ∧ bs.length ≤ cap ∧ PQ w (fun k => B ≤ k) ⟨a, bs, cap⟩ := by
  obtain ⟨a, cap, e, h1, h2, h3⟩ := own_cq h
  refine ⟨a, cap, e, h1, h3.mono (fun k _ hk => ?_), h2⟩
  rcases h.2 with ⟨e2, _⟩ | ⟨g, cap2, cur, e2, hb, _⟩
  · rw [e2] at hk; cases hk
  · rw [e2] at hk; cases hk; exact hb
def PSl (w : World) (bs : List UInt8) (e : Ending) (w' : World) : Prop := ∃ a cap, e = .returned (.slice a bs.length cap) ∧ Hid (PQ w' (fun k => w.heap.size ≤ k) ⟨a, bs, cap⟩ ∧ bs.length ≤ cap ∧ Adds w w')
theorem POwn.sl {w : World} {bs : List UInt8} {e : Ending} {w' : World} (h : POwn w bs e w') : PSl w bs e w' := by
  obtain ⟨v, rfl, h1, h2⟩ := h
  obtain ⟨a, cap, rfl, h3, h4⟩ := own_sl h1
  exact ⟨a, cap, rfl, h4, h3, h2⟩
theorem ptext_any (a : Option Addr) (bs : List UInt8) (n cap : Nat) (hn : bs.length = n) (ts : List UInt8) (w : World) (hl : n ≤ 1000000) (ht : ts.length ≤ 1000000) {Q : Nat → Prop} (hA : PQ w Q ⟨a, bs, cap⟩) : Calls Try.prog 64 #[.slice a n cap, .string ⟨ts.toArray⟩] w (PSl w (bs ++ N.txt ts)) := by
  subst hn
  exact (putText_any a bs cap ts w hl ht hA.non hA.at_.at).mono (fun _ _ h => h.sl)
theorem pfixed_any (a : Option Addr) (bs : List UInt8) (n cap : Nat) (hn : bs.length = n) (x : Nat) (w : World) (hl : n ≤ 1000000) {Q : Nat → Prop} (hA : PQ w Q ⟨a, bs, cap⟩) : Calls Try.prog 65 #[.slice a n cap, .int .u64 (x : Int), .int .i64 4] w (PSl w (bs ++ M.fix x 4)) := by
  subst hn
  exact (putFixed_any a bs cap x 4 w hl hA.non hA.at_.at).mono (fun _ _ h => h.sl)
set_option maxRecDepth 100000 in
theorem kindOf_any (x : NM) (w : World) : Calls Try.prog 34 #[x.val] w (Adding (.int .u8 ((N.kind x.nd).toNat : Int)) w) := by
  obtain ⟨leaf, ka, kc, ks, g, ia, ic, zs⟩ := x
  obtain ⟨N0, w1, hN0, hw1, HA1, _, b0, b1, b2, b3⟩ := nbox w leaf (.slice ka ks.length kc) (.slice g.a g.l.length g.cap) (.slice ia zs.length ic)
  unfold NM.val NM.kv NM.vv NM.iv
  go_enter Try.func34, Try.ntmps34
  go_upto_region 1 with fail
  rw [← hw1, ← hN0]
  clear hw1 hN0
  cases leaf with
  | true =>
    go_wp2
    go_ret
    exact ⟨rfl, HA1.out⟩
  | false =>
    go_wp2
    go_ret
    exact ⟨rfl, HA1.out⟩
/-- How long a node's cells are, and how many. -/
theorem len_cells (n : N.Nd) : (N.cells n).length = n.keys.length := by simp [N.cells]
theorem cells_take {n : N.Nd} {k : Nat} (h : k < n.keys.length) : (N.cells n).take (k + 1) = (N.cells n).take k ++ [N.cell n k] := by
  rw [List.take_add_one, List.getElem?_eq_getElem (by rw [len_cells]; exact h)]
  simp [N.cells]
theorem right_parts {n : N.Nd} (h : N.right n = true) : N.keysOk n.keys = true ∧ ((n.leaf = true ∧ n.vals.length = n.keys.length ∧ n.kids.length = 0 ∧ N.valsOk n.vals = true) ∨ (n.leaf = false ∧ n.kids.length = n.keys.length ∧ n.vals.length = 0 ∧ N.kidsOk n.kids = true ∧ 0 < n.keys.length ∧ n.keys.getD 0 [] = [])) := by
  have hk : N.keysOk n.keys = true := by
    cases hk : N.keysOk n.keys with
    | true => rfl
    | false => rw [right_keys hk] at h; cases h
  refine ⟨hk, ?_⟩
  cases hl : n.leaf with
  | true =>
    rw [right_leaf hk hl] at h
    simp only [Bool.and_eq_true, decide_eq_true_eq] at h
    exact .inl ⟨rfl, h.1.1, h.1.2, h.2⟩
  | false =>
    rw [right_inner hk hl] at h
    simp only [Bool.and_eq_true, decide_eq_true_eq, beq_iff_eq] at h
    exact .inr ⟨rfl, h.1.2.1, h.1.2.2, h.2, h.1.1.1, h.1.1.2⟩
theorem right_key {n : N.Nd} (h : N.right n = true) {i : Nat} (hi : i < n.keys.length) : (n.keys.getD i []).length ≤ 40 := by
  have h1 := (right_parts h).1
  unfold N.keysOk at h1
  rw [List.all_eq_true] at h1
  have h2 := h1 i (List.mem_range.2 hi)
  unfold N.badAt at h2
  simp only [Bool.not_eq_true', Bool.or_eq_false_iff, decide_eq_false_iff_not] at h2
  omega
/-- One cell more. -/
theorem cells_step {w1 wr w3 w4 w5 : World} {N0 k L : Nat} {cs : List (List UInt8)} {hs : List Part} {v v5 : Value} {a4 : Option Addr} {c4 : Nat} {by_ : List UInt8} {t : TypeId}
    (hI : hs.map (·.bs) = cs.take k ∧ wr.ownsRow 0 30 1 v k (hs.map PV) ∧ (∀ j, v.ownBlock = some j → N0 < j) ∧ (∀ x ∈ hs, PQ wr (fun j => N0 < j ∧ v.ownBlock ≠ some j) x) ∧ Adds w1 wr)
    (h3 : Adds wr w3) (h4 : PQ w4 (fun k => w3.heap.size ≤ k) ⟨a4, by_, c4⟩ ∧ L ≤ c4 ∧ Adds w3 w4) (hG : Grew (w4.alloc (.cells #[.slice a4 L c4] t)) w5 30 v v5 (k + 1) (hs.map PV ++ [.slice a4 L c4])) (hL : L = by_.length) (hN0 : w1.heap.size = N0 + 1) (hc : cs.take (k + 1) = cs.take k ++ [by_]) :
    (hs ++ [Part.mk a4 by_ c4]).map (·.bs) = cs.take (k + 1) ∧ w5.ownsRow 0 30 1 v5 (k + 1) ((hs ++ [Part.mk a4 by_ c4]).map PV) ∧ (∀ j, v5.ownBlock = some j → N0 < j) ∧ (∀ x ∈ hs ++ [Part.mk a4 by_ c4], PQ w5 (fun j => N0 < j ∧ v5.ownBlock ≠ some j) x) ∧ Adds w1 w5 := by
  obtain ⟨i1, i2, i3, i4, i5⟩ := hI
  obtain ⟨j1, j2, j3⟩ := h4
  have hz1 := i5.size
  have hz3 := h3.size
  have hz4 := j3.size
  have hlow : ∀ j, v.ownBlock = some j → j < wr.heap.size := fun j hj => by
    obtain ⟨cur, hcur⟩ := row_type i2 hj
    exact (Array.getElem?_eq_some_iff.1 hcur).1
  have hA4 : Adds w4 (w4.alloc (.cells #[.slice a4 L c4] t)) := (Touch.refl _ w4).alloc _
  have hsz : (w4.alloc (.cells #[.slice a4 L c4] t)).heap.size = w4.heap.size + 1 := by simp
  have hv5 : ∀ j, v5.ownBlock = some j → v.ownBlock = some j ∨ j = w4.heap.size + 1 := fun j hj => by
    rcases hG.2.2 with c | c
    · exact .inl (by rw [← c]; exact hj)
    · rw [c] at hj; cases hj; exact .inr hsz
  refine ⟨by rw [List.map_append, i1, hc]; rfl, by rw [List.map_append]; have q := hG.1; rw [hL] at q; exact q, fun j hj => ?_, fun x hx => ?_, ?_⟩
  · rcases hv5 j hj with c | c
    · exact i3 j c
    · omega
  · rcases List.mem_append.1 hx with hx | hx
    · have q := (i4 x hx).adds ((h3.trans j3).trans hA4)
      have q2 := q.touch hG.touch (fun j hj c => hj.2 c)
      have q3 : PQ wr (fun j => N0 < j ∧ v.ownBlock ≠ some j ∧ j < wr.heap.size) x := (i4 x hx).mono (fun j hj hq => ⟨hq.1, hq.2, hj⟩)
      have q4 := (q3.adds ((h3.trans j3).trans hA4)).touch hG.touch (fun j hj c => hj.2.1 c)
      exact q4.mono (fun j _ hq => ⟨hq.1, fun c => by rcases hv5 j c with c | c; exact hq.2.1 c; omega⟩)
    · rw [List.mem_singleton.1 hx]
      have q3 : PQ w4 (fun j => w3.heap.size ≤ j ∧ j < w4.heap.size) ⟨a4, by_, c4⟩ := j1.mono (fun j hj hq => ⟨hq, hj⟩)
      have q4 := (q3.adds hA4).touch hG.touch (fun j hj c => by have := hlow j c; omega)
      exact q4.mono (fun j _ hq => ⟨by omega, fun c => by rcases hv5 j c with c | c; have := hlow j c; omega; omega⟩)
  · exact ((i5.trans (h3.trans j3)).trans hA4).then hG.touch (fun j hj c => by have h1 := hlow j c; have h2 := i3 j c; omega)
set_option maxRecDepth 100000 in
set_option maxHeartbeats 4000000 in
theorem ncells_any (x : NM) (w : World) {Q : Nat → Prop} (h : NQ w Q x) (hs : NS x) (hr : N.right x.nd = true) : Calls Try.prog 35 #[x.val] w (PCells w (N.cells x.nd)) := by
  obtain ⟨leaf, ka, kc, ks, g, ia, ic, zs⟩ := x
  have HQ := hid h
  have HS := hid hs
  have HR := hid hr
  obtain ⟨cs, hcs⟩ : ∃ cs, cs = N.cells (NM.nd ⟨leaf, ka, kc, ks, g, ia, ic, zs⟩) := ⟨_, rfl⟩
  rw [← hcs]
  have HCs := hid hcs
  clear h hs hr hcs
  obtain ⟨kn, hkn⟩ : ∃ kn, kn = ks.length := ⟨_, rfl⟩
  have hk9 : kn ≤ 1000 := by rw [hkn]; exact HS.out.k
  unfold NM.val NM.kv NM.vv NM.iv
  simp only [← hkn]
  have HKn := hid hkn
  clear hkn
  obtain ⟨N0, w1, hN0, hw1, HA1, _, b0, b1, b2, b3⟩ := nbox w leaf (.slice ka kn kc) (.slice g.a g.l.length g.cap) (.slice ia zs.length ic)
  have HN0 := hid (show w.heap.size ≤ N0 by rw [hN0]; exact Nat.le_refl _)
  have HSz := hid (show w1.heap.size = N0 + 1 by rw [hw1, hN0]; simp)
  have hmk := make_cells kn (by omega)
  go_enter Try.func35, Try.ntmps35
  go_upto_region 1 with fail
  rw [← hw1, ← hN0]
  clear hw1 hN0
  go_upto_region 2 with fail
  have HO := hid (show (w1.alloc (.cells (madeCells #[.slice none 0 0] kn) 30)).ownsRow 0 30 1 (.slice (some ⟨w1.heap.size, 0, none⟩) 0 kn) 0 [] from World.ownsRow_made (base := 0) (e := 30) (size := 1) w1 (madeCells #[.slice none 0 0] kn) kn (Nat.zero_le _) (by unfold maxLen; omega) (by rw [size_madeCells, Nat.mul_one]))
  obtain ⟨w2, hw2⟩ : ∃ w2, w2 = w1.alloc (.cells (madeCells #[.slice none 0 0] kn) 30) := ⟨_, rfl⟩
  obtain ⟨N2, hN2⟩ : ∃ N2, N2 = w1.heap.size := ⟨_, rfl⟩
  have HA2 := hid (show Adds w1 w2 by rw [hw2]; exact (Touch.refl _ w1).alloc _)
  have HN2 := hid (show N0 < N2 by rw [hN2]; exact World.block_lt_of_cell? w1 ⟨N0, 0, none⟩ b0)
  rw [← hw2, ← hN2] at HO
  rw [← hw2, ← hN2]
  clear hw2 hN2 hmk
  have d0 := below_adds HA2.out b0
  have d1 := below_adds HA2.out b1
  have d2 := below_adds HA2.out b2
  have d3 := below_adds HA2.out b3
  have B0 := hid b0
  have B1 := hid b1
  have B2 := hid b2
  have B3 := hid b3
  clear b0 b1 b2 b3
  go_wp2_with fail
  clear d0 d1 d2 d3
  go_loopw [3, 14] (fun v t wx => ∃ (k : Nat) (hs : List Part), k ≤ kn ∧ t = .int .i64 (k : Int) ∧ Hid (hs.map (·.bs) = cs.take k ∧ wx.ownsRow 0 30 1 v k (hs.map PV) ∧ (∀ j, v.ownBlock = some j → N0 < j) ∧ (∀ x ∈ hs, PQ wx (fun j => N0 < j ∧ v.ownBlock ≠ some j) x) ∧ Adds w1 wx)) (fun _ t _ => kn - (intOf t).toNat)
  case atStart => exact ⟨0, [], Nat.zero_le _, rfl, rfl, HO.out, fun j hj => by simp [Value.ownBlock] at hj; subst hj; exact HN2.out, fun x hx => (by cases hx), HA2.out⟩
  case round =>
    obtain ⟨k, hs, hk, rfl, HI⟩ := hrel
    have e0 := below_adds HI.out.2.2.2.2 B0.out
    have e1 := below_adds HI.out.2.2.2.2 B1.out
    by_cases hlt : k < kn
    · have hlz : (k : Int) < (kn : Int) := by omega
      have hk2 : k < ks.length := by rw [← HKn.out]; exact hlt
      obtain ⟨b, o, ea, hc0⟩ := HQ.out.key hk2
      have ea' : ka = some ⟨b, o, none⟩ := ea
      obtain ⟨key, hkey⟩ : ∃ key, key = ks.getD k [] := ⟨_, rfl⟩
      have hc : wr.cell? ⟨b, o + k, none⟩ = some (.string ⟨key.toArray⟩) := by rw [hkey]; exact below_adds (HA1.out.trans HI.out.2.2.2.2) hc0
      have hkl : key.length ≤ 40 := by rw [hkey]; exact right_key HR.out hk2
      have HKey := hid hkey
      obtain ⟨L1, hL1⟩ : ∃ L1, L1 = (N.txt key).length := ⟨_, rfl⟩
      have HL1 := hid hL1
      have hL9 : L1 ≤ 100 := by
        rw [hL1, N.txt, List.length_append, N.enc_len (by omega)]
        omega
      have HP1 := hid (show Calls Try.prog 64 #[.slice none 0 0, .string ⟨key.toArray⟩] wr (fun e w' => ∃ a cap, e = .returned (.slice a L1 cap) ∧ Hid (PQ w' (fun k => wr.heap.size ≤ k) ⟨a, N.txt key, cap⟩ ∧ L1 ≤ cap ∧ Adds wr w')) by
        rw [hL1]; exact ptext_any none [] 0 0 rfl key wr (by omega) (by omega) (Q := fun _ => True) ⟨CQ.nil _ _ _, fun _ => rfl⟩)
      have HCk := hid (show cs.take (k + 1) = cs.take k ++ [N.cell (NM.nd ⟨leaf, ka, kc, ks, g, ia, ic, zs⟩) k] by rw [HCs.out]; exact cells_take hk2)
      clear hc0 hkey hL1 ea
      subst ea'
      go_upto_region 6 with (go_at_call 64; refine HP1.out.mono ?_; rintro e w3 ⟨a3, c3, rfl, H3⟩)
      have f0 := below_adds H3.out.2.2 e0
      have f2 := below_adds (HI.out.2.2.2.2.trans H3.out.2.2) B2.out
      have f3 := below_adds (HI.out.2.2.2.2.trans H3.out.2.2) B3.out
      cases leaf with
      | true =>
        obtain ⟨hvl, hzl, hvo⟩ : g.l.length = kn ∧ zs.length = 0 ∧ N.valsOk g.bs = true := by
          rcases (right_parts HR.out).2 with ⟨_, q1, q2, q3⟩ | ⟨q0, _⟩
          · exact ⟨by rw [HKn.out]; exact (List.length_map (f := fun x : Part => x.bs)).symm.trans q1, q2, q3⟩
          · cases q0
        have hkg : k < g.l.length := by omega
        obtain ⟨b', o', eb, hv0⟩ := HQ.out.vals.cell hkg
        have eb' : g.a = some ⟨b', o', none⟩ := eb
        obtain ⟨y, hy⟩ : ∃ y, y = g.l[k] := ⟨_, rfl⟩
        have hyq : PQ w Q y := by rw [hy]; exact HQ.out.vals.all _ (List.getElem_mem hkg)
        have hyl : y.bs.length ≤ 49 := by
          have q := hvo
          unfold N.valsOk at q
          rw [List.all_eq_true] at q
          simpa using q y.bs (by rw [hy]; exact List.mem_map.2 ⟨_, List.getElem_mem hkg, rfl⟩)
        have HY := hid (show g.bs.getD k [] = y.bs by rw [hy, Pl.bs, List.getD_eq_getElem?_getD, List.getElem?_map, List.getElem?_eq_getElem hkg]; rfl)
        have hv1 : w3.cell? ⟨b', o' + k, none⟩ = some (.slice y.a y.bs.length y.cap) := by
          have q := below_adds (HA1.out.trans (HI.out.2.2.2.2.trans H3.out.2.2)) hv0
          rw [hy]; exact q
        have hcv := conv_at w3 y.a y.bs y.cap ((hyq.adds (HA1.out.trans (HI.out.2.2.2.2.trans H3.out.2.2))).at_.at)
        obtain ⟨L2, hL2⟩ : ∃ L2, L2 = (N.txt key ++ N.txt y.bs).length := ⟨_, rfl⟩
        have HL2 := hid hL2
        have HP2 := hid (show Calls Try.prog 64 #[.slice a3 L1 c3, .string ⟨y.bs.toArray⟩] w3 (fun e w' => ∃ a cap, e = .returned (.slice a L2 cap) ∧ Hid (PQ w' (fun k => w3.heap.size ≤ k) ⟨a, N.txt key ++ N.txt y.bs, cap⟩ ∧ L2 ≤ cap ∧ Adds w3 w')) by
          rw [hL2]; exact ptext_any a3 (N.txt key) L1 c3 HL1.out.symm y.bs w3 (by omega) (by omega) H3.out.1)
        obtain ⟨yl, hyl2⟩ : ∃ yl, yl = y.bs.length := ⟨_, rfl⟩
        rw [← hyl2] at hv1 hcv
        generalize (⟨y.bs.toArray⟩ : ByteArray) = YB at HP2 hcv
        obtain ⟨ya, hya⟩ : ∃ ya, ya = y.a := ⟨_, rfl⟩
        obtain ⟨yc, hyc⟩ : ∃ yc, yc = y.cap := ⟨_, rfl⟩
        rw [← hya, ← hyc] at hv1 hcv
        obtain ⟨vl, hvlE⟩ : ∃ vl, vl = g.l.length := ⟨_, rfl⟩
        rw [eb', ← hvlE] at f2
        have hkv : k < vl := by omega
        clear hvl hzl hvo hkg hv0 eb eb' hy hyq hyl hL2 hyl2 hya hyc hvlE
        go_wp2_with (first
          | (go_at_call 64; refine HP2.out.mono ?_; rintro e w4 ⟨a4, c4, rfl, H4⟩
             have HA4 := hid (fun o => show (w4.alloc o).ownsRow 0 30 1 u3 k (hs.map PV) from row_touch HI.out.2.1 ((H3.out.2.2.trans H4.out.2.2).alloc o) (fun _ _ => id)))
          | (at_builtin; refine append_b1 rfl _ _ rfl u3 k (hs.map PV) rfl (HA4.out _) w4.heap.size (.slice a4 L2 c4) rfl (cellOf (heap_alloc_new w4 _) 0) rfl (by omega) ?_; intro v5 w5 G5; have HG := hid G5; clear G5))
        go_roundw
        case rel =>
          have hcell : N.cell (NM.nd ⟨true, some ⟨b, o, none⟩, kc, ks, g, ia, ic, zs⟩) k = N.txt key ++ N.txt y.bs := by
            show N.txt (ks.getD k []) ++ _ = _
            rw [← HKey.out]
            show _ ++ N.txt (g.bs.getD k []) = _
            rw [HY.out]
          exact ⟨k + 1, hs ++ [⟨a4, N.txt key ++ N.txt y.bs, c4⟩], by omega, by go_num, hid (cells_step HI.out H3.out.2.2 H4.out HG.out HL2.out HSz.out (by rw [HCk.out, hcell]))⟩
        case measure => simp [intOf]; omega
      | false =>
        obtain ⟨hzl, hzo⟩ : zs.length = kn ∧ N.kidsOk zs = true := by
          rcases (right_parts HR.out).2 with ⟨q0, _⟩ | ⟨_, q1, q2, q3, _⟩
          · cases q0
          · exact ⟨by rw [HKn.out]; exact q1, q3⟩
        have hkz : k < zs.length := by omega
        obtain ⟨b', o', eb, hv0⟩ := HQ.out.kid (i := k) hkz
        have eb' : ia = some ⟨b', o', none⟩ := eb
        obtain ⟨z, hz⟩ : ∃ z, z = zs.getD k 0 := ⟨_, rfl⟩
        have hzr : 0 ≤ z ∧ z ≤ 2147483647 := by
          have q := hzo
          unfold N.kidsOk at q
          rw [List.all_eq_true] at q
          have q2 := q z (by rw [hz, List.getD_eq_getElem?_getD, List.getElem?_eq_getElem hkz]; exact List.getElem_mem hkz)
          simpa using q2
        obtain ⟨m, hm⟩ : ∃ m : Nat, z = (m : Int) := ⟨z.toNat, by omega⟩
        have hv1 : w3.cell? ⟨b', o' + k, none⟩ = some (.int .i64 (m : Int)) := by
          have q := below_adds (HA1.out.trans (HI.out.2.2.2.2.trans H3.out.2.2)) hv0
          rw [← hm, hz]; exact q
        have HY := hid (show (zs.getD k 0).toNat = m by rw [← hz, hm]; rfl)
        have hm9 : m ≤ 2147483647 := by omega
        have hwz : IntKind.u64.wrap (m : Int) = (m : Int) := by rw [IntKind.wrap_u64]; omega
        obtain ⟨L2, hL2⟩ : ∃ L2, L2 = (N.txt key ++ M.fix m 4).length := ⟨_, rfl⟩
        have HL2 := hid hL2
        have HP2 := hid (show Calls Try.prog 65 #[.slice a3 L1 c3, .int .u64 (m : Int), .int .i64 4] w3 (fun e w' => ∃ a cap, e = .returned (.slice a L2 cap) ∧ Hid (PQ w' (fun k => w3.heap.size ≤ k) ⟨a, N.txt key ++ M.fix m 4, cap⟩ ∧ L2 ≤ cap ∧ Adds w3 w')) by
          rw [hL2]; exact pfixed_any a3 (N.txt key) L1 c3 HL1.out.symm m w3 (by omega) H3.out.1)
        obtain ⟨zl, hzlE⟩ : ∃ zl, zl = zs.length := ⟨_, rfl⟩
        rw [eb', ← hzlE] at f3
        have hkv : k < zl := by omega
        clear hzl hzo hkz hv0 eb eb' hz hzr hm hL2 hzlE
        go_wp2_with (first
          | (go_at_call 65; refine HP2.out.mono ?_; rintro e w4 ⟨a4, c4, rfl, H4⟩
             have HA4 := hid (fun o => show (w4.alloc o).ownsRow 0 30 1 u3 k (hs.map PV) from row_touch HI.out.2.1 ((H3.out.2.2.trans H4.out.2.2).alloc o) (fun _ _ => id)))
          | (at_builtin; refine append_b1 rfl _ _ rfl u3 k (hs.map PV) rfl (HA4.out _) w4.heap.size (.slice a4 L2 c4) rfl (cellOf (heap_alloc_new w4 _) 0) rfl (by omega) ?_; intro v5 w5 G5; have HG := hid G5; clear G5))
        go_roundw
        case rel =>
          have hcell : N.cell (NM.nd ⟨false, some ⟨b, o, none⟩, kc, ks, g, ia, ic, zs⟩) k = N.txt key ++ M.fix m 4 := by
            show N.txt (ks.getD k []) ++ _ = _
            rw [← HKey.out]
            show _ ++ M.fix (zs.getD k 0).toNat 4 = _
            rw [HY.out]
          exact ⟨k + 1, hs ++ [⟨a4, N.txt key ++ M.fix m 4, c4⟩], by omega, by go_num, hid (cells_step HI.out H3.out.2.2 H4.out HG.out HL2.out HSz.out (by rw [HCk.out, hcell]))⟩
        case measure => simp [intOf]; omega
    · obtain rfl : k = kn := by omega
      have hlz : ¬ (k : Int) < (k : Int) := by omega
      have hcl : cs.length = k := by rw [HCs.out, len_cells, HKn.out]; rfl
      have HCl := hid hcl
      obtain ⟨va, vc, hv, hle, hnon, hq⟩ := own_cq HI.out.2.1
      have hlen : hs.length = k := by rw [← List.length_map (f := fun x : Part => x.bs), HI.out.1, List.length_take, hcl, Nat.min_self]
      subst hv
      have HV := hid (show hs.map (·.bs) = cs ∧ GQ wr (fun j => w.heap.size ≤ j) ⟨va, vc, hs⟩ ∧ Adds w wr ∧ k ≤ vc from
        ⟨by rw [HI.out.1, ← hcl, List.take_length], ⟨hq.mono (fun j _ hj => by have := HI.out.2.2.1 j hj; have := HN0.out; omega), hnon, fun x hx => (HI.out.2.2.2.1 x hx).mono (fun j _ hj => by have := hj.1; have := HN0.out; omega)⟩, HA1.out.trans HI.out.2.2.2.2, hle⟩)
      clear hq hnon hle hlen hcl
      go_wp2_with fail
      go_ret
      refine ⟨va, vc, hs, congrArg (fun n => Ending.returned (.slice va n vc)) HCl.out.symm, HV.out.1, HV.out.2.1, HV.out.2.2.1, by rw [HCl.out]; exact HV.out.2.2.2⟩
end Go.Proofs.Ytplppnngmlljnaa

/- How much a node takes; whether it fits; a node that may be, or none. -/
namespace Go.Proofs.Ytplppnngmlljnaa
open Go.RowKit

theorem wpList_load_g {ops : Array Oper} {rest : List Oper} {op : Oper} {a : Act} {w : World} {Q : Exit → Act → World → Prop} (hw : Region.wanted op (yielded ops a.tmps) = true) (ty : TypeId) (x : Operand) (ho : op.op = .load ty x)
    (b o : Nat) (hx : a.eval x = .pointer (some ⟨b, o, none⟩)) (cs : List Value) (d : TypeDesc) (hc : w.rangeAt b o cs)
    (hu : Try.prog.underlying ty = some d) (hd : d.isRow = true) (hi : (Try.prog.info? ty).map (·.size) = some cs.length)
    (h : wpList Try.prog ops Q rest (a.put op.dst (.agg cs.toArray)) w) : wpList Try.prog ops Q (op :: rest) a w :=
  wpList_step fun K hK => by
    rw [if_pos hw]
    exact wp_load_mid ty x ho b o hx cs d hc hu hd hi (hK _ _ h)
theorem ncell_len {n : N.Nd} (h : N.right n = true) {i : Nat} (hi : i < n.keys.length) : (N.cell n i).length ≤ 91 := by
  have hk := right_key h hi
  have ht : ∀ b : List UInt8, b.length ≤ 49 → (N.txt b).length = b.length + 1 := fun b hb => by
    rw [N.txt, List.length_append, N.enc_len (by omega)]; omega
  unfold N.cell
  rw [List.length_append, ht _ (by omega)]
  rcases (right_parts h).2 with ⟨hl, h1, h2, h3⟩ | ⟨hl, h1, h2, h3, _⟩
  · rw [if_pos hl]
    have hv : (n.vals.getD i []).length ≤ 49 := by
      rw [List.getD_eq_getElem?_getD, List.getElem?_eq_getElem (by omega)]
      unfold N.valsOk at h3
      rw [List.all_eq_true] at h3
      simpa using h3 _ (List.getElem_mem (by omega : i < n.vals.length))
    rw [ht _ hv]
    omega
  · rw [if_neg (by rw [hl]; decide), M.len_fix]
    omega
theorem cells_all {n : N.Nd} (h : N.right n = true) : ∀ c ∈ N.cells n, c.length ≤ 91 := fun c hc => by
  obtain ⟨i, hi, rfl⟩ := List.mem_map.1 hc
  exact ncell_len h (List.mem_range.1 hi)
theorem taken_cons (c : List UInt8) (l : List (List UInt8)) : M.taken (c :: l) = 2 + c.length + M.taken l := by
  simp only [M.taken, List.length_cons, List.flatten_cons, List.length_append]; omega
theorem ntaken_le : ∀ (l : List (List UInt8)), (∀ c ∈ l, c.length ≤ 91) → M.taken l ≤ 93 * l.length
  | [], _ => by simp [M.taken]
  | c :: l, h => by
    have h1 := h c List.mem_cons_self
    have h2 := ntaken_le l (fun x hx => h x (List.mem_cons_of_mem _ hx))
    rw [taken_cons, List.length_cons]
    omega
theorem taken_snoc {l : List (List UInt8)} {k : Nat} (h : k < l.length) : M.taken (l.take (k + 1)) = M.taken (l.take k) + (2 + l[k].length) := by
  rw [List.take_add_one, List.getElem?_eq_getElem h]
  show M.taken (l.take k ++ [l[k]]) = _
  rw [M.taken_app, M.taken_one]
set_option maxRecDepth 100000 in
set_option maxHeartbeats 4000000 in
theorem ntaken_any (x : NM) (w : World) {Q : Nat → Prop} (h : NQ w Q x) (hs : NS x) : Calls Try.prog 17 #[x.val] w (Adding (.int .i64 (N.taken x.nd : Int)) w) := by
  have HQ := hid h
  have HS := hid hs
  obtain ⟨r, hr⟩ : ∃ r, r = N.right x.nd := ⟨_, rfl⟩
  have HR := hid hr
  obtain ⟨N0, w1, hN0, hw1, HA1, Hg, b0, b1, b2, b3⟩ := nbox w x.leaf x.kv x.vv x.iv
  have HC := hid (show Calls Try.prog 15 #[x.val] w1 (Adding (.bool r) w1) by rw [hr]; exact nright_any x w1 (h.adds HA1.out) hs)
  have HCc := hid (fun w' (hA : Adds w w') (hr' : N.right x.nd = true) => ncells_any x w' (h.adds hA) hs hr')
  obtain ⟨tk, htk⟩ : ∃ tk, tk = N.taken x.nd := ⟨_, rfl⟩
  rw [← htk]
  have HTk := hid htk
  obtain ⟨cs, hcs⟩ : ∃ cs, cs = N.cells x.nd := ⟨_, rfl⟩
  rw [← hcs] at HCc
  have HCs := hid hcs
  obtain ⟨cn, hcn⟩ : ∃ cn, cn = cs.length := ⟨_, rfl⟩
  have hcn9 : cn ≤ 1000 := by rw [hcn, hcs, len_cells]; exact hs.k
  have HCn := hid hcn
  clear h hs hr htk hcs b0 b1 b2 b3 hcn
  have HU := infoN
  unfold NM.val NM.kv NM.vv NM.iv at *
  go_enter Try.func17, Try.ntmps17
  go_upto_region 1 with fail
  rw [← hw1, ← hN0]
  clear hw1 hN0
  cases r with
  | false =>
    go_wp2_with (first
      | (refine wpList_load_mid rfl 28 _ rfl N0 0 rfl [.bool x.leaf, .slice x.ka x.ks.length x.kc, .slice x.v.a x.v.l.length x.v.cap, .slice x.ia x.is.length x.ic] _ Hg.out Try.underlying28 rfl HU.out ?_)
      | (go_at_call 15; refine HC.out.mono ?_; rintro e w2 ⟨rfl, hA2⟩; have H2 := hid hA2; clear hA2))
    go_ret
    exact ⟨congrArg (fun n : Int => Ending.returned (.int .i64 n)) (show (0 : Int) = (tk : Int) by rw [HTk.out, N.taken, ← HR.out]; rfl), HA1.out.trans H2.out⟩
  | true =>
    go_upto_region 4 with (first
      | (refine wpList_load_mid rfl 28 _ rfl N0 0 rfl [.bool x.leaf, .slice x.ka x.ks.length x.kc, .slice x.v.a x.v.l.length x.v.cap, .slice x.ia x.is.length x.ic] _ Hg.out Try.underlying28 rfl HU.out ?_)
      | (go_at_call 15; refine HC.out.mono ?_; rintro e w2 ⟨rfl, hA2⟩; have H2 := hid hA2; clear hA2))
    have Hg2 := hid (fun j v hv => below_adds H2.out (Hg.out j v hv))
    have HCc2 := hid (show Calls Try.prog 35 _ w2 (fun e w' => ∃ ca cc, ∃ hs : List Part, e = .returned (.slice ca cn cc) ∧ Hid (hs.map (·.bs) = cs ∧ GQ w' (fun k => w2.heap.size ≤ k) ⟨ca, cc, hs⟩ ∧ Adds w2 w' ∧ cn ≤ cc)) by
      rw [HCn.out]; exact HCc.out w2 (HA1.out.trans H2.out) HR.out.symm)
    go_wp2_with (first
      | (refine wpList_load_mid rfl 28 _ rfl N0 0 rfl [.bool x.leaf, .slice x.ka x.ks.length x.kc, .slice x.v.a x.v.l.length x.v.cap, .slice x.ia x.is.length x.ic] _ Hg2.out Try.underlying28 rfl HU.out ?_)
      | (go_at_call 35; refine HCc2.out.mono ?_; rintro e w3 ⟨ca, cc, hs, rfl, H3⟩))
    have HL := hid (show hs.length = cn by rw [HCn.out, ← H3.out.1, List.length_map])
    go_loopw [3, 12] (fun tv t wx => ∃ (k z : Nat), k ≤ cn ∧ z ≤ 93 * k ∧ t = .int .i64 (k : Int) ∧ tv = .int .i64 (z : Int) ∧ wx = w3 ∧ Hid (z = M.taken (cs.take k))) (fun _ t _ => cn - (intOf t).toNat)
    case atStart => exact ⟨0, 0, Nat.zero_le _, Nat.zero_le _, rfl, rfl, rfl, rfl⟩
    case round =>
      obtain ⟨k, z, hk, hz, rfl, rfl, hwx, HZ⟩ := hrel
      rw [hwx]
      clear hwx
      by_cases hlt : k < cn
      · have hlz : (k : Int) < (cn : Int) := by omega
        have hkh : k < hs.length := by rw [HL.out]; exact hlt
        obtain ⟨b, o, ea, hc⟩ := H3.out.2.1.cell hkh
        have ea' : ca = some ⟨b, o, none⟩ := ea
        subst ea'
        obtain ⟨y, hy⟩ : ∃ y, y = hs[k] := ⟨_, rfl⟩
        have hkc : k < cs.length := by rw [← HCn.out]; exact hlt
        have hyb : y.bs = cs[k] := by
          have q : (hs.map (·.bs))[k]? = cs[k]? := by rw [H3.out.1]
          rw [List.getElem?_map, List.getElem?_eq_getElem hkh, List.getElem?_eq_getElem hkc] at q
          rw [hy]; exact Option.some.inj q
        rw [← hy] at hc
        obtain ⟨m, hm⟩ : ∃ m, m = y.bs.length := ⟨_, rfl⟩
        have hm9 : m ≤ 91 := by rw [hm, hyb]; exact cells_all HR.out.symm _ (by rw [← HCs.out]; exact List.getElem_mem hkc)
        have HM := hid (show M.taken (cs.take (k + 1)) = z + (2 + m) by rw [taken_snoc hkc, HZ.out, hm, hyb])
        have hc' : w3.cell? ⟨b, o + k, none⟩ = some (.slice y.a m y.cap) := by rw [hm]; exact hc
        clear hc hy hyb hm hkc hkh ea
        go_wp2_with fail
        go_roundw
        case rel => exact ⟨k + 1, z + (2 + m), by omega, by omega, by go_num, by go_num, by trivial, HM.out.symm⟩
        case measure => simp [intOf]; omega
      · obtain rfl : k = cn := by omega
        have hlz : ¬ (k : Int) < (k : Int) := by omega
        go_wp2_with fail
        go_ret
        exact ⟨congrArg (fun n : Nat => Ending.returned (.int .i64 (n : Int))) (show z = tk by rw [HTk.out, N.taken, ← HR.out, HZ.out, HCn.out, List.take_length, HCs.out]; rfl), (HA1.out.trans H2.out).trans H3.out.2.2.1⟩
set_option maxRecDepth 100000 in
set_option maxHeartbeats 4000000 in
theorem nfits_any (x : NM) (w : World) {Q : Nat → Prop} (h : NQ w Q x) (hs : NS x) : Calls Try.prog 19 #[x.val] w (Adding (.bool (N.right x.nd && decide (N.taken x.nd ≤ 244))) w) := by
  obtain ⟨r, hr⟩ : ∃ r, r = N.right x.nd := ⟨_, rfl⟩
  obtain ⟨N0, w1, hN0, hw1, HA1, Hg, b0, b1, b2, b3⟩ := nbox w x.leaf x.kv x.vv x.iv
  have HC := hid (show Calls Try.prog 15 #[x.val] w1 (Adding (.bool r) w1) by rw [hr]; exact nright_any x w1 (h.adds HA1.out) hs)
  obtain ⟨tk, htk⟩ : ∃ tk, tk = N.taken x.nd := ⟨_, rfl⟩
  have HT := hid (fun w' (hA : Adds w w') => show Calls Try.prog 17 #[x.val] w' (Adding (.int .i64 (tk : Int)) w') by rw [htk]; exact ntaken_any x w' (h.adds hA) hs)
  rw [← hr, ← htk]
  clear h hs hr htk b0 b1 b2 b3
  have HU := infoN
  unfold NM.val NM.kv NM.vv NM.iv at *
  go_enter Try.func19, Try.ntmps19
  go_upto_region 1 with fail
  rw [← hw1, ← hN0]
  clear hw1 hN0
  cases r with
  | false =>
    go_wp2_with (first
      | (refine wpList_load_mid rfl 28 _ rfl N0 0 rfl [.bool x.leaf, .slice x.ka x.ks.length x.kc, .slice x.v.a x.v.l.length x.v.cap, .slice x.ia x.is.length x.ic] _ Hg.out Try.underlying28 rfl HU.out ?_)
      | (go_at_call 15; refine HC.out.mono ?_; rintro e w2 ⟨rfl, hA2⟩; have H2 := hid hA2; clear hA2))
    go_ret
    exact ⟨rfl, HA1.out.trans H2.out⟩
  | true =>
    by_cases hq : tk ≤ 244
    · have hqz : (tk : Int) ≤ 244 := by omega
      have HQ2 := hid (show decide (tk ≤ 244) = true from decide_eq_true hq)
      clear hq
      go_wp2_with (first
        | (refine wpList_load_mid rfl 28 _ rfl N0 0 rfl [.bool x.leaf, .slice x.ka x.ks.length x.kc, .slice x.v.a x.v.l.length x.v.cap, .slice x.ia x.is.length x.ic] _ Hg.out Try.underlying28 rfl HU.out ?_)
        | (refine wpList_load_g (by rfl) 28 _ rfl N0 0 rfl [.bool x.leaf, .slice x.ka x.ks.length x.kc, .slice x.v.a x.v.l.length x.v.cap, .slice x.ia x.is.length x.ic] _ (fun j v hv => below_adds H2.out (Hg.out j v hv)) Try.underlying28 rfl HU.out ?_)
        | (refine wp_load_mid 28 _ rfl N0 0 rfl [.bool x.leaf, .slice x.ka x.ks.length x.kc, .slice x.v.a x.v.l.length x.v.cap, .slice x.ia x.is.length x.ic] _ (fun j v hv => below_adds H2.out (Hg.out j v hv)) Try.underlying28 rfl HU.out ?_)
        | (go_at_call 15; refine HC.out.mono ?_; rintro e w2 ⟨rfl, hA2⟩; have H2 := hid hA2; clear hA2)
        | (go_at_call 17; refine (HT.out w2 (HA1.out.trans H2.out)).mono ?_; rintro e w3 ⟨rfl, hA3⟩; have H3 := hid hA3; clear hA3))
      go_ret
      exact ⟨congrArg (fun z => Ending.returned (.bool z)) (show true = (true && decide (tk ≤ 244)) by rw [HQ2.out]; rfl), (HA1.out.trans H2.out).trans H3.out⟩
    · have hqz : ¬ (tk : Int) ≤ 244 := by omega
      have HQ2 := hid (show decide (tk ≤ 244) = false from decide_eq_false hq)
      clear hq
      go_wp2_with (first
        | (refine wpList_load_mid rfl 28 _ rfl N0 0 rfl [.bool x.leaf, .slice x.ka x.ks.length x.kc, .slice x.v.a x.v.l.length x.v.cap, .slice x.ia x.is.length x.ic] _ Hg.out Try.underlying28 rfl HU.out ?_)
        | (refine wpList_load_g (by rfl) 28 _ rfl N0 0 rfl [.bool x.leaf, .slice x.ka x.ks.length x.kc, .slice x.v.a x.v.l.length x.v.cap, .slice x.ia x.is.length x.ic] _ (fun j v hv => below_adds H2.out (Hg.out j v hv)) Try.underlying28 rfl HU.out ?_)
        | (refine wp_load_mid 28 _ rfl N0 0 rfl [.bool x.leaf, .slice x.ka x.ks.length x.kc, .slice x.v.a x.v.l.length x.v.cap, .slice x.ia x.is.length x.ic] _ (fun j v hv => below_adds H2.out (Hg.out j v hv)) Try.underlying28 rfl HU.out ?_)
        | (go_at_call 15; refine HC.out.mono ?_; rintro e w2 ⟨rfl, hA2⟩; have H2 := hid hA2; clear hA2)
        | (go_at_call 17; refine (HT.out w2 (HA1.out.trans H2.out)).mono ?_; rintro e w3 ⟨rfl, hA3⟩; have H3 := hid hA3; clear hA3))
      go_ret
      exact ⟨congrArg (fun z => Ending.returned (.bool z)) (show decide ((tk : Int) ≤ 244) = (true && decide (tk ≤ 244)) by rw [HQ2.out]; simp; omega), (HA1.out.trans H2.out).trans H3.out⟩
end Go.Proofs.Ytplppnngmlljnaa
