/- Texts put together: NFMath, NRTake, NRFind, NSpoil, NParses, NFinds, NAsks. -/
import Derived.Test.YtplppnngmlljnaaQ14
import Derived.Test.YtplppnngmlljnaaQ15
import Derived.Test.YtplppnngmlljnaaQ16
import Derived.Laws.BitsLemmas
import Derived.Test.YtplppnngmlljnaaQ13
/- A key's place: a cell that is put there, found, and taken out again. -/
namespace Go.Proofs.Ytplppnngmlljnaa
open Go.RowKit
namespace N
theorem lb_spec (ks : List (List UInt8)) (key : List UInt8) : (∀ t, t < lb ks key → lt (ks.getD t []) key = true) ∧ (lb ks key < ks.length → lt (ks.getD (lb ks key) []) key = false) := by
  unfold lb
  induction ks with
  | nil => exact ⟨fun t h => absurd h (by simp), fun h => absurd h (by simp)⟩
  | cons k l ih =>
    cases hk : lt k key with
    | false =>
      rw [List.takeWhile_cons, hk]
      exact ⟨fun t h => absurd h (by simp), fun _ => hk⟩
    | true =>
      rw [List.takeWhile_cons, if_pos hk, List.length_cons]
      refine ⟨fun t h => ?_, fun h => ?_⟩
      · cases t with
        | zero => exact hk
        | succ t => exact ih.1 t (by omega)
      · exact ih.2 (by simpa using h)
/-- An inner node's place is never the first. -/
theorem lb_pos {n : Nd} (h : right n = true) (hl : n.leaf = false) {key : List UInt8} (ha : isAt n.keys key = false) : 0 < lb n.keys key := by
  rcases (right_parts h).2 with ⟨q0, _⟩ | ⟨_, _, _, _, q4, q5⟩
  · rw [hl] at q0; cases q0
  · rcases Nat.eq_zero_or_pos (lb n.keys key) with c | c
    · have s2 := (lb_spec n.keys key).2 (by omega)
      rw [isAt_eq, c, decide_eq_true q4, q5, Bool.true_and] at ha
      rw [c, q5] at s2
      cases key with
      | nil => exact absurd ha (by decide)
      | cons b y => cases s2
    · exact c
/-- The node with a cell more. -/
def more (n : Nd) (key val : List UInt8) : Nd := change n (lb n.keys key) (lb n.keys key) ⟨false, [key], [val], [7]⟩
end N
end Go.Proofs.Ytplppnngmlljnaa

/- The reference: what a node takes, its page, where a key stands. -/
namespace Go.Proofs.Ytplppnngmlljnaa
open Go.RowKit

set_option maxRecDepth 100000 in
set_option maxHeartbeats 4000000 in
theorem rtaken14_any (x : NM) (w : World) {Q : Nat → Prop} (h : NQ w Q x) (hs : NS x) : Calls Try.prog 18 #[x.val] w (Adding (.int .i64 (N.taken x.nd : Int)) w) := by
  obtain ⟨r, hr⟩ : ∃ r, r = N.right x.nd := ⟨_, rfl⟩
  have HR := hid hr
  obtain ⟨N0, w1, hN0, hw1, HA1, HBx⟩ := rbox w x.leaf x.kv x.vv x.iv
  have HC := hid (show Calls Try.prog 16 #[x.val] w1 (Adding (.bool r) w1) by rw [hr]; exact rright_any x w1 (h.adds HA1.out) hs)
  obtain ⟨tk, htk⟩ : ∃ tk, tk = N.taken x.nd := ⟨_, rfl⟩
  rw [← htk]
  have HTk := hid htk
  obtain ⟨cn, hcn⟩ : ∃ cn, cn = (N.cells x.nd).length := ⟨_, rfl⟩
  have HCc := hid (fun w' (hA : Adds w w') (hr' : N.right x.nd = true) => show Calls Try.prog 37 #[x.val] w' (fun e w2 => ∃ ca cc, ∃ hs : List Part, e = .returned (.slice ca cn cc) ∧ Hid (hs.map (·.bs) = N.cells x.nd ∧ GQ w2 (fun k => w'.heap.size ≤ k) ⟨ca, cc, hs⟩ ∧ Adds w' w2 ∧ cn ≤ cc)) by rw [hcn]; exact rcells_any x w' (h.adds hA) hs hr')
  have HTm := hid (show N.taken x.nd ≤ 93000 by
    unfold N.taken
    split
    · rename_i hr2
      have q := ntaken_le (N.cells x.nd) (cells_all hr2)
      have := hs.k
      rw [len_cells] at q
      have e : x.nd.keys.length ≤ 1000 := this
      omega
    · exact Nat.zero_le _)
  have HCn := hid hcn
  clear h hs hr htk hcn
  unfold NM.val NM.kv NM.vv NM.iv at *
  go_enter Try.func18, Try.ntmps18
  go_upto_region 1 with fail
  rw [← hw1, ← hN0]
  clear hw1 hN0
  cases r with
  | false =>
    go_wp2_with (first
      | (refine wpList_load_row rfl 26 _ rfl N0 rfl 26 _ _ _ HBx.out Try.underlying26 rfl (infoR4 _ _ _ _) ?_)
      | (go_at_call 16; refine HC.out.mono ?_; rintro e w2 ⟨rfl, hA2⟩; have H2 := hid hA2; clear hA2))
    go_ret
    exact ⟨congrArg (fun n : Int => Ending.returned (.int .i64 n)) (show (0 : Int) = (tk : Int) by rw [HTk.out, N.taken, ← HR.out]; rfl), HA1.out.trans H2.out⟩
  | true =>
    go_upto_region 3 with (first
      | (refine wpList_load_row rfl 26 _ rfl N0 rfl 26 _ _ _ HBx.out Try.underlying26 rfl (infoR4 _ _ _ _) ?_)
      | (go_at_call 16; refine HC.out.mono ?_; rintro e w2 ⟨rfl, hA2⟩; have H2 := hid hA2; clear hA2))
    have HB2 := hid (box_adds HBx.out H2.out)
    have HCc2 := hid (HCc.out w2 (HA1.out.trans H2.out) HR.out.symm)
    have htk2 : tk = M.taken (N.cells x.nd) := by rw [HTk.out, N.taken, if_pos HR.out.symm]
    have HTk2 := hid htk2
    have HTm2 := hid (show tk ≤ 93000 by rw [HTk.out]; exact HTm.out)
    clear htk2
    go_wp2_with (first
      | (refine wpList_load_row rfl 26 _ rfl N0 rfl 26 _ _ _ HB2.out Try.underlying26 rfl (infoR4 _ _ _ _) ?_)
      | (go_at_call 37; refine HCc2.out.mono ?_; rintro e w3 ⟨ca, cc, hs, rfl, H3⟩; have HT3 := hid (rtaken_any ca hs cn cc (by rw [HCn.out, ← H3.out.1, List.length_map]) w3 H3.out.2.1 tk (by rw [HTk2.out, H3.out.1]) (by have := HTm2.out; omega)))
      | (go_at_call 43; refine HT3.out.mono ?_; rintro e w4 ⟨rfl, hw4⟩; rw [hw4]; clear hw4))
    go_ret
    exact ⟨rfl, (HA1.out.trans H2.out).trans H3.out.2.2.1⟩
theorem PTold.from {w w1 w' : World} {cs : List UInt8} {er : Nat} {e : Ending} (h : PTold w1 cs er e w') (hA : Adds w w1) : PTold w cs er e w' := by
  obtain ⟨a, cap, rfl, H⟩ := h
  exact ⟨a, cap, rfl, H.out.1, H.out.2.1, ⟨H.out.2.2.1.1, fun b o e => Nat.le_trans hA.size (H.out.2.2.1.2 b o e)⟩, hA.trans H.out.2.2.2⟩
set_option maxRecDepth 100000 in
set_option maxHeartbeats 4000000 in
theorem rbytes14_any (no : Int) (x : NM) (w : World) {Q : Nat → Prop} (h : NQ w Q x) (hs : NS x) : Calls Try.prog 12 #[.int .i64 no, x.val] w (PTold w (N.bytesP no x.nd) (N.bytesE no x.nd)) := by
  obtain ⟨r, hr⟩ : ∃ r, r = N.right x.nd := ⟨_, rfl⟩
  have HR := hid hr
  obtain ⟨lf, hlf⟩ : ∃ l, l = x.leaf := ⟨_, rfl⟩
  obtain ⟨N0, w1, hN0, hw1, HA1, HBx⟩ := rbox w lf x.kv x.vv x.iv
  have hv : x.val = .agg #[.bool lf, x.kv, x.vv, x.iv] := by rw [hlf]
  have HV := hid hv
  have HC := hid (show Calls Try.prog 16 #[x.val] w1 (Adding (.bool r) w1) by rw [hr]; exact rright_any x w1 (h.adds HA1.out) hs)
  obtain ⟨tk, htk⟩ : ∃ tk, tk = N.taken x.nd := ⟨_, rfl⟩
  have HTa := hid (fun w' (hA : Adds w w') => show Calls Try.prog 18 #[x.val] w' (Adding (.int .i64 (tk : Int)) w') by rw [htk]; exact rtaken14_any x w' (h.adds hA) hs)
  have HTk := hid htk
  obtain ⟨cn, hcn⟩ : ∃ cn, cn = (N.cells x.nd).length := ⟨_, rfl⟩
  have HCc := hid (fun w' (hA : Adds w w') (hr' : N.right x.nd = true) => show Calls Try.prog 37 #[x.val] w' (fun e w2 => ∃ ca cc, ∃ hs : List Part, e = .returned (.slice ca cn cc) ∧ Hid (hs.map (·.bs) = N.cells x.nd ∧ GQ w2 (fun k => w'.heap.size ≤ k) ⟨ca, cc, hs⟩ ∧ Adds w' w2 ∧ cn ≤ cc)) by rw [hcn]; exact rcells_any x w' (h.adds hA) hs hr')
  have HCn := hid hcn
  have HLf := hid hlf
  have htk9 : tk ≤ 93000 := by
    rw [htk]
    unfold N.taken
    split
    · rename_i hr2
      have q := ntaken_le (N.cells x.nd) (cells_all hr2)
      have e : x.nd.keys.length ≤ 1000 := hs.k
      rw [len_cells] at q
      omega
    · exact Nat.zero_le _
  clear h hs hr htk hcn hlf
  rw [hv] at HC ⊢
  rw [hv] at HTa HCc
  clear hv
  unfold NM.kv NM.vv NM.iv at *
  go_enter Try.func12, Try.ntmps12
  go_upto_region 1 with fail
  rw [← hw1, ← hN0]
  clear hw1 hN0
  cases r with
  | false =>
    have HE := hid (show N.bytesP no x.nd = [] ∧ N.bytesE no x.nd = 22 from ⟨by unfold N.bytesP; rw [if_pos HR.out.symm], by unfold N.bytesE; rw [if_pos HR.out.symm]⟩)
    go_wp2_with (first
      | (refine wpList_load_row rfl 26 _ rfl N0 rfl 26 _ _ _ HBx.out Try.underlying26 rfl (infoR4 _ _ _ _) ?_)
      | (go_at_call 16; refine HC.out.mono ?_; rintro e w2 ⟨rfl, hA2⟩; have H2 := hid hA2; clear hA2))
    go_ret2
    exact PTold.nil (HA1.out.trans H2.out) HE.out.1 (by rw [HE.out.2]; rfl)
  | true =>
    go_upto_region 3 with (first
      | (refine wpList_load_row rfl 26 _ rfl N0 rfl 26 _ _ _ HBx.out Try.underlying26 rfl (infoR4 _ _ _ _) ?_)
      | (go_at_call 16; refine HC.out.mono ?_; rintro e w2 ⟨rfl, hA2⟩; have H2 := hid hA2; clear hA2))
    have HB2 := hid (box_adds HBx.out H2.out)
    have HTa2 := hid (HTa.out w2 (HA1.out.trans H2.out))
    by_cases h244 : 244 < tk
    · have h244z : (244 : Int) < (tk : Int) := by omega
      have h244d : decide ((244 : Int) < (tk : Int)) = true := decide_eq_true h244z
      have HE := hid (show N.bytesP no x.nd = [] ∧ N.bytesE no x.nd = 32 from ⟨by unfold N.bytesP; rw [if_neg (by rw [← HR.out]; decide), if_pos (by rw [← HTk.out]; exact h244)], by unfold N.bytesE; rw [if_neg (by rw [← HR.out]; decide), if_pos (by rw [← HTk.out]; exact h244)]⟩)
      go_wp2_with (first
        | (refine wpList_load_row rfl 26 _ rfl N0 rfl 26 _ _ _ HB2.out Try.underlying26 rfl (infoR4 _ _ _ _) ?_)
        | (go_at_call 18; refine HTa2.out.mono ?_; rintro e w3 ⟨rfl, hA3⟩; have H3 := hid hA3; clear hA3))
      go_ret2
      exact PTold.nil ((HA1.out.trans H2.out).trans H3.out) HE.out.1 (by rw [HE.out.2]; rfl)
    · have h244z : ¬ (244 : Int) < (tk : Int) := by omega
      have h244d : decide ((244 : Int) < (tk : Int)) = false := decide_eq_false h244z
      have HE := hid (show N.bytesP no x.nd = M.fillP no (N.kind x.nd) (N.cells x.nd) ∧ N.bytesE no x.nd = M.fillE no (N.kind x.nd) (N.cells x.nd) from ⟨by unfold N.bytesP; rw [if_neg (by rw [← HR.out]; decide), if_neg (by rw [← HTk.out]; exact h244)], by unfold N.bytesE; rw [if_neg (by rw [← HR.out]; decide), if_neg (by rw [← HTk.out]; exact h244)]⟩)
      have HFl := hid (fun (w' : World) (ca : Option Addr) (cc : Nat) (hs : List Part) (h1 : hs.map (·.bs) = N.cells x.nd) (h2 : GQ w' (fun _ => True) ⟨ca, cc, hs⟩) => show Calls Try.prog 36 #[.int .i64 no, .int .u8 ((N.kind x.nd).toNat : Int), .slice ca cn cc] w' (PTold w' (N.bytesP no x.nd) (N.bytesE no x.nd)) by
        have q := rfill_any no (N.kind x.nd) ca hs cn cc (by rw [HCn.out, ← h1, List.length_map]) w' h2 (by
          rw [h1]
          have e : tk = M.taken (N.cells x.nd) := by rw [HTk.out, N.taken, if_pos HR.out.symm]
          omega)
        rw [h1] at q
        rw [HE.out.1, HE.out.2]; exact q)
      have HKd := hid (show N.kind x.nd = if lf then 5 else 6 by rw [HLf.out]; rfl)
      rw [HKd.out] at HFl
      go_upto_region 6 with (first
        | (refine wpList_load_row rfl 26 _ rfl N0 rfl 26 _ _ _ HB2.out Try.underlying26 rfl (infoR4 _ _ _ _) ?_)
        | (go_at_call 18; refine HTa2.out.mono ?_; rintro e w3 ⟨rfl, hA3⟩; have H3 := hid hA3; clear hA3))
      have HB3 := hid (box_adds HB2.out H3.out)
      have A3 := hid ((HA1.out.trans H2.out).trans H3.out)
      have HCc3 := hid (HCc.out w3 A3.out HR.out.symm)
      obtain ⟨b0, _, _, _⟩ := box_cells HB3.out
      cases lf with
      | true =>
        go_wp2_with (first
          | (refine wpList_load_row rfl 26 _ rfl N0 rfl 26 _ _ _ HB3.out Try.underlying26 rfl (infoR4 _ _ _ _) ?_)
          | (go_at_call 37; refine HCc3.out.mono ?_; rintro e w4 ⟨ca, cc, hs, rfl, H4⟩; have HF4 := hid (HFl.out w4 ca cc hs H4.out.1 (H4.out.2.1.mono (fun _ _ _ => trivial))))
          | (go_at_call 36; refine HF4.out.mono ?_; intro e w5 hp; obtain ⟨fa, fc, rfl, H5⟩ := hp.from (A3.out.trans H4.out.2.2.1); clear hp))
        go_ret2
        exact ⟨fa, fc, rfl, H5.out⟩
      | false =>
        go_wp2_with (first
          | (refine wpList_load_row rfl 26 _ rfl N0 rfl 26 _ _ _ HB3.out Try.underlying26 rfl (infoR4 _ _ _ _) ?_)
          | (go_at_call 37; refine HCc3.out.mono ?_; rintro e w4 ⟨ca, cc, hs, rfl, H4⟩; have HF4 := hid (HFl.out w4 ca cc hs H4.out.1 (H4.out.2.1.mono (fun _ _ _ => trivial))))
          | (go_at_call 36; refine HF4.out.mono ?_; intro e w5 hp; obtain ⟨fa, fc, rfl, H5⟩ := hp.from (A3.out.trans H4.out.2.2.1); clear hp))
        go_ret2
        exact ⟨fa, fc, rfl, H5.out⟩
end Go.Proofs.Ytplppnngmlljnaa

/- The reference: where a key stands. -/
namespace Go.Proofs.Ytplppnngmlljnaa
open Go.RowKit

set_option maxRecDepth 100000 in
set_option maxHeartbeats 8000000 in
theorem rfind14_any (x : NM) (key : List UInt8) (w : World) {Q : Nat → Prop} (h : NQ w Q x) (hs : NS x) : Calls Try.prog 14 #[x.val, .string ⟨key.toArray⟩] w (Adding (.tuple #[.int .i64 (N.findI x.nd key), .bool (N.findB x.nd key)]) w) := by
  obtain ⟨leaf, ka, kc, ks, g, ia, ic, zs⟩ := x
  have HQ := hid h
  obtain ⟨r, hr⟩ : ∃ r, r = N.right (NM.nd ⟨leaf, ka, kc, ks, g, ia, ic, zs⟩) := ⟨_, rfl⟩
  have HR := hid hr
  obtain ⟨fi, hfi⟩ : ∃ f, f = N.findI (NM.nd ⟨leaf, ka, kc, ks, g, ia, ic, zs⟩) key := ⟨_, rfl⟩
  obtain ⟨fb, hfb⟩ : ∃ f, f = N.findB (NM.nd ⟨leaf, ka, kc, ks, g, ia, ic, zs⟩) key := ⟨_, rfl⟩
  rw [← hfi, ← hfb]
  have HF := hid (And.intro hfi hfb)
  obtain ⟨kn, hkn⟩ : ∃ kn, kn = ks.length := ⟨_, rfl⟩
  have hk9 : kn ≤ 1000 := by rw [hkn]; exact hs.k
  obtain ⟨N0, w1, hN0, hw1, HA1, HBx⟩ := rbox w leaf (.slice ka kn kc) (.slice g.a g.l.length g.cap) (.slice ia zs.length ic)
  have HC := hid (show Calls Try.prog 16 #[.agg #[.bool leaf, .slice ka kn kc, .slice g.a g.l.length g.cap, .slice ia zs.length ic]] w1 (Adding (.bool r) w1) by rw [hr, hkn]; exact rright_any ⟨leaf, ka, kc, ks, g, ia, ic, zs⟩ w1 (h.adds HA1.out) hs)
  show Calls Try.prog 14 #[.agg #[.bool leaf, .slice ka ks.length kc, .slice g.a g.l.length g.cap, .slice ia zs.length ic], .string ⟨key.toArray⟩] w _
  rw [← hkn]
  have HKn := hid hkn
  clear h hs hr hfi hfb hkn
  go_enter Try.func14, Try.ntmps14
  go_upto_region 1 with fail
  rw [← hw1, ← hN0]
  clear hw1 hN0
  cases r with
  | false =>
    go_wp2_with (first
      | (refine wpList_load_row rfl 26 _ rfl N0 rfl 26 _ _ _ HBx.out Try.underlying26 rfl (infoR4 _ _ _ _) ?_)
      | (go_at_call 16; refine HC.out.mono ?_; rintro e w2 ⟨rfl, hA2⟩; have H2 := hid hA2; clear hA2))
    go_ret2
    have e1 : fi = 0 := by rw [HF.out.1, N.findI, if_pos HR.out.symm]
    have e2 : fb = false := by rw [HF.out.2, N.findB, ← HR.out]; rfl
    subst e1 e2
    exact ⟨rfl, HA1.out.trans H2.out⟩
  | true =>
    go_upto_region 4 with (first
      | (refine wpList_load_row rfl 26 _ rfl N0 rfl 26 _ _ _ HBx.out Try.underlying26 rfl (infoR4 _ _ _ _) ?_)
      | (go_at_call 16; refine HC.out.mono ?_; rintro e w2 ⟨rfl, hA2⟩; have H2 := hid hA2; clear hA2))
    have A2 := hid (HA1.out.trans H2.out)
    have HB2 := hid (box_adds HBx.out H2.out)
    obtain ⟨b0, b1, b2, b3⟩ := box_cells HB2.out
    go_loopw [6] (fun t wx => ∃ i : Nat, i ≤ kn ∧ t = .int .i64 (i : Int) ∧ wx = w2 ∧ Hid (∀ t, t < i → N.lt (ks.getD t []) key = true)) (fun t _ => kn - (intOf t).toNat)
    case atStart => exact ⟨0, Nat.zero_le _, rfl, rfl, fun t h => by omega⟩
    case round =>
      obtain ⟨i, hi, rfl, hwx, HI⟩ := hrel
      rw [hwx]
      clear hwx
      have hend : ∀ (hle : i < kn → N.lt (ks.getD i []) key = false), Hid (N.lb ks key = i) := fun hle => lb_is ks key i (by rw [← HKn.out]; exact hi) HI.out (fun h => hle (by rw [HKn.out]; exact h))
      by_cases hlt : i < kn
      · have hlz : (i : Int) < (kn : Int) := by omega
        have hld : decide ((i : Int) < (kn : Int)) = true := decide_eq_true hlz
        have hln : decide (i < kn) = true := decide_eq_true hlt
        obtain ⟨b, o, ea, hc0⟩ := HQ.out.key (i := i) (show i < ks.length by rw [← HKn.out]; exact hlt)
        have ea' : ka = some ⟨b, o, none⟩ := ea
        obtain ⟨k, hk⟩ : ∃ k, k = ks.getD i [] := ⟨_, rfl⟩
        have hc := below_adds A2.out hc0
        rw [show Str ((⟨leaf, ka, kc, ks, g, ia, ic, zs⟩ : NM).ks.getD i []) = .string ⟨k.toArray⟩ by rw [hk]; rfl] at hc
        have HK := hid hk
        clear hc0 hk ea
        rw [ea'] at b1 ⊢
        obtain ⟨a1, e1⟩ : ∃ a1, Op.bytesLess k key = a1 := ⟨_, rfl⟩
        have e1' : N.lt (ks.getD i []) key = a1 := by rw [← HK.out, ← e1]; rfl
        cases a1 with
        | true =>
          have HL := hid e1'
          clear hend ea' e1'
          go_wp2_with fail
          go_roundw
          case rel =>
            refine ⟨i + 1, by omega, by go_num, by trivial, fun t ht => ?_⟩
            rcases Nat.lt_or_eq_of_le (Nat.le_of_lt_succ ht) with q | q
            · exact HI.out t q
            · rw [q]; exact HL.out
          case measure => simp [intOf]; omega
        | false =>
          have HLb := hend (fun _ => e1')
          obtain ⟨a2, e2⟩ : ∃ a2, (k == key) = a2 := ⟨_, rfl⟩
          have HAt := hid (show N.isAt ks key = a2 by rw [isAt_eq, HLb.out, decide_eq_true (show i < ks.length by rw [← HKn.out]; exact hlt), Bool.true_and, ← HK.out, e2])
          have hfi : fi = (if leaf = false ∧ a2 = false then (i : Int) - 1 else (i : Int)) := by
            rw [HF.out.1, N.findI, if_neg (by rw [← HR.out]; decide)]
            show (if leaf = false ∧ N.isAt ks key = false then (N.lb ks key : Int) - 1 else (N.lb ks key : Int)) = _
            rw [HAt.out, HLb.out]
          have hfb : fb = a2 := by rw [HF.out.2, N.findB, ← HR.out]; show (true && N.isAt ks key) = _; rw [HAt.out]; rfl
          have HFi := hid hfi
          subst hfb
          have hwr : IntKind.i64.wrap ((i : Int) - 1) = (i : Int) - 1 := by rw [IntKind.wrap_i64]; omega
          clear hend ea' e1' hfi HAt
          cases leaf with
          | true =>
            cases fb with
            | true =>
              go_wp2_with fail
              go_ret2
              exact ⟨by rw [HFi.out]; rfl, A2.out⟩
            | false =>
              go_wp2_with fail
              go_ret2
              exact ⟨by rw [HFi.out]; rfl, A2.out⟩
          | false =>
            cases fb with
            | true =>
              go_wp2_with fail
              go_ret2
              exact ⟨by rw [HFi.out]; rfl, A2.out⟩
            | false =>
              go_wp2_with fail
              go_ret2
              exact ⟨by rw [HFi.out]; rfl, A2.out⟩
      · obtain rfl : i = kn := by omega
        have hlz : ¬ (i : Int) < (i : Int) := by omega
        have HLb := hend (fun h => absurd h hlt)
        have HAt := hid (show N.isAt ks key = false by rw [isAt_eq, HLb.out, decide_eq_false (show ¬ i < ks.length by rw [← HKn.out]; exact hlt)]; rfl)
        have hfi : fi = (if leaf = false then (i : Int) - 1 else (i : Int)) := by
          rw [HF.out.1, N.findI, if_neg (by rw [← HR.out]; decide)]
          show (if leaf = false ∧ N.isAt ks key = false then (N.lb ks key : Int) - 1 else (N.lb ks key : Int)) = _
          rw [HAt.out, HLb.out]
          simp
        have hfb : fb = false := by rw [HF.out.2, N.findB, ← HR.out]; show (true && N.isAt ks key) = _; rw [HAt.out]; rfl
        have HFi := hid hfi
        subst hfb
        have hwr : IntKind.i64.wrap ((i : Int) - 1) = (i : Int) - 1 := by rw [IntKind.wrap_i64]; omega
        clear hend hfi HAt hlt
        cases leaf with
        | true =>
          go_wp2_with fail
          go_ret2
          exact ⟨by rw [HFi.out]; rfl, A2.out⟩
        | false =>
          go_wp2_with fail
          go_ret2
          exact ⟨by rw [HFi.out]; rfl, A2.out⟩
end Go.Proofs.Ytplppnngmlljnaa

/- A node's memory is changed: its places stay. -/
namespace Go.Proofs.Ytplppnngmlljnaa
open Go.RowKit

theorem set_typed {w : World} {g k b : Nat} {v : Value} {t : TypeId} (hb : ∃ cs fr, w.heap[b]? = some (Obj.cells cs t fr)) : ∃ cs fr, (w.setCell ⟨g, k, none⟩ v).heap[b]? = some (Obj.cells cs t fr) := by
  obtain ⟨cs, fr, hb⟩ := hb
  by_cases e : b = g
  · subst e
    rw [setCell_eq_setRow w b k cs t fr v hb]
    exact ⟨_, _, setRow_heap w b cs _ t fr hb⟩
  · rw [heap_setCell_other w ⟨g, k, none⟩ b v e]
    exact ⟨cs, fr, hb⟩
theorem PT.byte {w : World} {B : Nat} {p : Part} (h : PT w B p) (g k : Nat) (d : UInt8) : ∃ bs', bs'.length = p.bs.length ∧ PT (w.setCell ⟨g, k, none⟩ (B8 d)) B ⟨p.a, bs', p.cap⟩ := by
  by_cases hx : ∃ j0 o, j0 < p.bs.length ∧ p.a = some ⟨g, o, none⟩ ∧ o + j0 = k
  · obtain ⟨j0, o, hj0, ea, ek⟩ := hx
    refine ⟨p.bs.set j0 d, by rw [List.length_set], ⟨⟨fun j u hj => ?_, h.q.non⟩, fun j hj b' o' e => ?_⟩⟩
    · have hlt : j < p.bs.length := by
        have := (List.getElem?_eq_some_iff.1 hj).1
        simpa [S] using this
      obtain ⟨b1, o1, e1, hq, hc⟩ := h.q.at_ j (B8 (p.bs[j]'hlt)) (by rw [S_get, List.getElem?_eq_getElem hlt]; rfl)
      rw [ea] at e1
      injection e1 with e2
      injection e2 with e3 e4 _
      subst e3 e4
      refine ⟨g, o, ea, ⟨hq.1, set_typed hq.2⟩, ?_⟩
      by_cases ej : j = j0
      · subst ej
        rw [S_get, List.getElem?_set_self hlt] at hj
        obtain rfl : B8 d = u := Option.some.inj hj
        subst ek
        exact World.cell?_setCell_same w _ _ hc
      · rw [S_get, List.getElem?_set_ne (fun c => ej c.symm), ← S_get] at hj
        rw [S_get, List.getElem?_eq_getElem hlt] at hj
        obtain rfl : B8 (p.bs[j]'hlt) = u := Option.some.inj hj
        rw [World.cell?_setCell_other w _ _ _ (fun c => by injection c with _ c2 _; omega)]
        exact hc
    · rw [World.frozen?_setCell]
      exact h.fz j (by rw [List.length_set] at hj; exact hj) b' o' e
  · refine ⟨p.bs, rfl, ⟨⟨fun j u hj => ?_, h.q.non⟩, fun j hj b' o' e => ?_⟩⟩
    · obtain ⟨b1, o1, e1, hq, hc⟩ := h.q.at_ j u hj
      have hlt : j < p.bs.length := by
        have := (List.getElem?_eq_some_iff.1 hj).1
        simpa [S] using this
      refine ⟨b1, o1, e1, ⟨hq.1, set_typed hq.2⟩, ?_⟩
      rw [World.cell?_setCell_other w _ _ _ (fun c => hx (by injection c with c1 c2 _; subst c1; exact ⟨j, o1, hlt, e1, c2.symm⟩))]
      exact hc
    · rw [World.frozen?_setCell]
      exact h.fz j hj b' o' e
theorem parts_byte {w : World} {B : Nat} (g k : Nat) (d : UInt8) : ∀ l : List Part, (∀ p ∈ l, PT w B p) → ∃ l' : List Part, l'.map PV = l.map PV ∧ ∀ p ∈ l', PT (w.setCell ⟨g, k, none⟩ (B8 d)) B p
  | [], _ => ⟨[], rfl, fun p hp => by cases hp⟩
  | p :: l, h => by
    obtain ⟨bs', e, hp⟩ := (h p (List.mem_cons_self ..)).byte g k d
    obtain ⟨l', e2, hl⟩ := parts_byte g k d l (fun q hq => h q (List.mem_cons_of_mem _ hq))
    refine ⟨⟨p.a, bs', p.cap⟩ :: l', ?_, fun q hq => ?_⟩
    · rw [List.map_cons, List.map_cons, e2]
      show Value.slice p.a bs'.length p.cap :: _ = Value.slice p.a p.bs.length p.cap :: _
      rw [e]
    · rcases List.mem_cons.1 hq with rfl | hq
      · exact hp
      · exact hl q hq
/-- What lies there while a node is spoilt. -/
def Sp (w wx : World) (B N0 : Nat) (z : NM) : Prop := ∃ (ks' : List (List UInt8)) (hs' : List Part) (zs' : List Int), ks'.length = z.ks.length ∧ hs'.map PV = z.v.l.map PV ∧ zs'.length = z.is.length ∧ NOwn wx B ⟨z.leaf, z.ka, z.kc, ks', ⟨z.v.a, z.v.cap, hs'⟩, z.ia, z.ic, zs'⟩ ∧ Touch (fun j => B ≤ j) w wx ∧ wx.heap[N0]? = some (.cells #[.bool z.leaf, z.kv, z.vv, z.iv] 28 (0, 0))
theorem map_len {l l' : List Part} (h : l'.map PV = l.map PV) : l'.length = l.length := by
  have := congrArg List.length h
  rwa [List.length_map, List.length_map] at this
theorem Sp.key {w wx : World} {B N0 : Nat} {z : NM} (h : Sp w wx B N0 z) {i : Nat} (hi : i < z.ks.length) : ∃ g, z.ka = some ⟨g, 0, none⟩ ∧ wx.frozen? ⟨g, i, none⟩ = false ∧ (wx.cell? ⟨g, i, none⟩).isSome = true ∧ Sp w (wx.setCell ⟨g, i, none⟩ (Str [122, 122])) B N0 z := by
  obtain ⟨ks', hs', zs', e1, e2, e3, ho, hT, hb⟩ := h
  obtain ⟨g, eg, hg, hrow, hfz, hsm⟩ := row_setc ho.keys (k := i) (show i < ks'.length by omega) (Str [122, 122])
  have eg' : z.ka = some ⟨g, 0, none⟩ := eg
  have hown : (Value.slice z.ka ks'.length z.kc).ownBlock = some g := by rw [eg']; rfl
  have hS : Touch (fun j => j = g) wx (wx.setCell ⟨g, i, none⟩ (Str [122, 122])) := Touch.setCell (T := fun j => j = g) (Touch.refl _ wx) (p := ⟨g, i, none⟩) (fun _ => rfl) _
  have hne : ∀ {B' : Nat} {e : TypeId} {u : Value} {m : Nat} {xs : List Value}, wx.ownsRow B' e 1 u m xs → 9 ≠ e → ∀ j, u.ownBlock = some j → ¬ j = g := fun hu he j hj c => row_apt ho.keys hu he (j := g) hown (by rw [hj, c])
  refine ⟨g, eg', hfz, hsm, ks'.set i [122, 122], hs', zs', by rw [List.length_set]; exact e1, e2, e3, ⟨?_, row_touch ho.vals hS (hne ho.vals (by decide)), fun p hp => (ho.each p hp).touch hS (fun k hk cs' fr e => ?_), row_touch ho.kids hS (hne ho.kids (by decide))⟩, hT.then hS (fun j hj e => by omega), ?_⟩
  · show World.ownsRow _ B 9 1 (.slice z.ka (ks'.set i [122, 122]).length z.kc) (ks'.set i [122, 122]).length (Ss (ks'.set i [122, 122]))
    rw [List.length_set, show Ss (ks'.set i [122, 122]) = (Ss ks').set i (Str [122, 122]) by rw [Ss, Ss, List.map_set]]
    exact hrow
  · subst hk
    obtain ⟨cur, q⟩ := row_type ho.keys hown
    rw [q] at e
    injection e with q1
    injection q1 with _ q2 _
    exact absurd q2 (by decide)
  · rw [hS.block N0 (Array.getElem?_eq_some_iff.1 hb).1 (fun c => row_ne ho.keys hb (by decide) (j := g) hown c.symm)]
    exact hb
theorem Sp.kid {w wx : World} {B N0 : Nat} {z : NM} (h : Sp w wx B N0 z) {i : Nat} (hi : i < z.is.length) : ∃ (g : Nat) (v : Int), z.ia = some ⟨g, 0, none⟩ ∧ wx.frozen? ⟨g, i, none⟩ = false ∧ wx.cell? ⟨g, i, none⟩ = some (.int .i64 v) ∧ ∀ v' : Int, Sp w (wx.setCell ⟨g, i, none⟩ (.int .i64 v')) B N0 z := by
  obtain ⟨ks', hs', zs', e1, e2, e3, ho, hT, hb⟩ := h
  obtain ⟨g, eg, hg, _, hfz, hsm⟩ := row_setc ho.kids (k := i) (show i < zs'.length by omega) (.int .i64 0)
  have eg' : z.ia = some ⟨g, 0, none⟩ := eg
  obtain ⟨b, o, ea, hc⟩ := ho.nq.kid (i := i) (show i < zs'.length by omega)
  have ea' : z.ia = some ⟨b, o, none⟩ := ea
  rw [eg'] at ea'
  injection ea' with q1
  injection q1 with q2 q3 _
  subst q2 q3
  rw [Nat.zero_add] at hc
  have hown : (Value.slice z.ia zs'.length z.ic).ownBlock = some g := by rw [eg']; rfl
  refine ⟨g, _, eg', hfz, hc, fun v' => ?_⟩
  obtain ⟨g2, eg2, hg2, hrow, _, _⟩ := row_setc ho.kids (k := i) (show i < zs'.length by omega) (.int .i64 v')
  have eg2' : z.ia = some ⟨g2, 0, none⟩ := eg2
  rw [eg'] at eg2'
  injection eg2' with q1
  injection q1 with q2 _ _
  subst q2
  have hS : Touch (fun j => j = g) wx (wx.setCell ⟨g, i, none⟩ (.int .i64 v')) := Touch.setCell (T := fun j => j = g) (Touch.refl _ wx) (p := ⟨g, i, none⟩) (fun _ => rfl) _
  have hne : ∀ {B' : Nat} {e : TypeId} {u : Value} {m : Nat} {xs : List Value}, wx.ownsRow B' e 1 u m xs → 3 ≠ e → ∀ j, u.ownBlock = some j → ¬ j = g := fun hu he j hj c => row_apt ho.kids hu he (j := g) hown (by rw [hj, c])
  refine ⟨ks', hs', zs'.set i v', e1, e2, by rw [List.length_set]; exact e3, ⟨row_touch ho.keys hS (hne ho.keys (by decide)), row_touch ho.vals hS (hne ho.vals (by decide)), fun p hp => (ho.each p hp).touch hS (fun k hk cs' fr e => ?_), ?_⟩, hT.then hS (fun j hj e => by omega), ?_⟩
  · subst hk
    obtain ⟨cur, q⟩ := row_type ho.kids hown
    rw [q] at e
    injection e with q1
    injection q1 with _ q2 _
    exact absurd q2 (by decide)
  · show World.ownsRow _ B 3 1 (.slice z.ia (zs'.set i v').length z.ic) (zs'.set i v').length (Is (zs'.set i v'))
    rw [List.length_set, show Is (zs'.set i v') = (Is zs').set i (.int .i64 v') by rw [Is, Is, List.map_set]]
    exact hrow
  · rw [hS.block N0 (Array.getElem?_eq_some_iff.1 hb).1 (fun c => row_ne ho.kids hb (by decide) (j := g) hown c.symm)]
    exact hb
theorem Sp.val {w wx : World} {B N0 : Nat} {z : NM} (h : Sp w wx B N0 z) {u : Nat} (hu : u < z.v.l.length) : ∃ b o, z.v.a = some ⟨b, o, none⟩ ∧ wx.cell? ⟨b, o + u, none⟩ = some (PV z.v.l[u]) := by
  obtain ⟨ks', hs', zs', e1, e2, e3, ho, hT, hb⟩ := h
  have hu2 : u < hs'.length := by rw [map_len e2]; exact hu
  obtain ⟨b, o, ea, hc⟩ := ho.nq.vals.cell (i := u) hu2
  refine ⟨b, o, ea, ?_⟩
  have q : (hs'.map PV)[u]? = (z.v.l.map PV)[u]? := by rw [e2]
  rw [List.getElem?_map, List.getElem?_eq_getElem hu2, List.getElem?_map, List.getElem?_eq_getElem hu] at q
  rw [hc]; exact q
theorem Sp.byte {w wx : World} {B N0 : Nat} {z : NM} (h : Sp w wx B N0 z) {u j : Nat} (hu : u < z.v.l.length) (hj : j < z.v.l[u].bs.length) : ∃ (b o : Nat) (c : UInt8), z.v.l[u].a = some ⟨b, o, none⟩ ∧ wx.frozen? ⟨b, o + j, none⟩ = false ∧ wx.cell? ⟨b, o + j, none⟩ = some (.int .u8 (c.toNat : Int)) ∧ ∀ d : UInt8, Sp w (wx.setCell ⟨b, o + j, none⟩ (.int .u8 (d.toNat : Int))) B N0 z := by
  obtain ⟨ks', hs', zs', e1, e2, e3, ho, hT, hb⟩ := h
  have hu2 : u < hs'.length := by rw [map_len e2]; exact hu
  have q : (hs'.map PV)[u]? = (z.v.l.map PV)[u]? := by rw [e2]
  rw [List.getElem?_map, List.getElem?_eq_getElem hu2, List.getElem?_map, List.getElem?_eq_getElem hu] at q
  have q' : Value.slice hs'[u].a hs'[u].bs.length hs'[u].cap = .slice z.v.l[u].a z.v.l[u].bs.length z.v.l[u].cap := Option.some.inj q
  injection q' with q1 q2 q3
  have hp := ho.each hs'[u] (List.getElem_mem hu2)
  have hj2 : j < hs'[u].bs.length := by rw [q2]; exact hj
  obtain ⟨b, o, ea, hq, hc⟩ := hp.q.at_ j (B8 (hs'[u].bs[j]'hj2)) (by rw [S_get, List.getElem?_eq_getElem hj2]; rfl)
  have hfz := hp.fz j hj2 b o ea
  refine ⟨b, o, _, by rw [← q1]; exact ea, hfz, hc, fun d => ?_⟩
  obtain ⟨cs, fr, hbk⟩ := hq.2
  obtain ⟨l', el, hl⟩ := parts_byte (w := wx) b (o + j) d hs' ho.each
  have hS : Touch (fun k => k = b) wx (wx.setCell ⟨b, o + j, none⟩ (.int .u8 (d.toNat : Int))) := Touch.setCell (T := fun k => k = b) (Touch.refl _ wx) (p := ⟨b, o + j, none⟩) (fun _ => rfl) _
  have hne : ∀ {B' : Nat} {e : TypeId} {v : Value} {m : Nat} {xs : List Value}, wx.ownsRow B' e 1 v m xs → e ≠ 5 → ∀ k, v.ownBlock = some k → ¬ k = b := fun hu he k hk c => by
    subst c
    obtain ⟨cur, qq⟩ := row_type hu hk
    rw [hbk] at qq
    injection qq with q1
    injection q1 with _ q2 _
    exact he q2.symm
  have hlen : l'.length = hs'.length := map_len el
  refine ⟨ks', l', zs', e1, el.trans e2, e3, ⟨row_touch ho.keys hS (hne ho.keys (by decide)), ?_, hl, row_touch ho.kids hS (hne ho.kids (by decide))⟩, hT.then hS (fun k hk e => by have := hq.1; omega), ?_⟩
  · have r := row_touch ho.vals hS (hne ho.vals (by decide))
    show World.ownsRow _ B 30 1 (.slice z.v.a l'.length z.v.cap) l'.length (l'.map PV)
    rw [hlen, el]; exact r
  · rw [hS.block N0 (Array.getElem?_eq_some_iff.1 hb).1 (fun c => by
      subst c
      rw [hbk] at hb
      injection hb with q1
      injection q1 with _ q2 _
      exact absurd q2 (by decide))]
    exact hb
end Go.Proofs.Ytplppnngmlljnaa

/- NodeParses. -/
namespace Go.Proofs.Ytplppnngmlljnaa
open Go.RowKit

theorem conv_n {w : World} {a : Option Addr} {bs : List UInt8} {n cap : Nat} (h : At w a bs) (hn : n = bs.length) : (convert 30 9 (.slice a n cap)).run Try.prog w = .ok (.string ⟨bs.toArray⟩) w := by subst hn; exact conv_at w a bs cap h
end Go.Proofs.Ytplppnngmlljnaa

/- NodeFinds. -/
namespace Go.Proofs.Ytplppnngmlljnaa
open Go.RowKit

theorem great_200 {x : NM} (h : N.great x.nd = false) : N.Bd 200 x.nd := by
  obtain ⟨h1, h2, h3, h4, h5⟩ := N.great_is h
  exact ⟨h1, h2, h3, fun b hb => by have := h4 b hb; omega, fun b hb => by have := h5 b hb; omega⟩
end Go.Proofs.Ytplppnngmlljnaa

/- NodeAsks. -/
namespace Go.Proofs.Ytplppnngmlljnaa
open Go.RowKit

set_option maxRecDepth 100000 in
set_option maxHeartbeats 16000000 in
theorem asks14 (x : NM) (no : Int) (key : List UInt8) (w : World) {Q : Nat → Prop} (h : NQ w Q x) (hbig : NBig x) : Calls Try.prog 3 #[x.val, .int .i64 no, .string ⟨key.toArray⟩] w (Adding (.bool true) w) := by
  obtain ⟨xl, xka, xkc, xks, xg, xia, xic, xis⟩ := x
  have HQ := hid h
  obtain ⟨n, hn⟩ : ∃ n, n = (⟨xl, xka, xkc, xks, xg, xia, xic, xis⟩ : NM).nd := ⟨_, rfl⟩
  have HN := hid hn
  obtain ⟨gr, hgr⟩ : ∃ gr, gr = N.great n := ⟨_, rfl⟩
  have HW := hid (fun w' => works14 w')
  have HG := hid (fun w' (hA : Adds w w') => show Calls Try.prog 9 #[.agg #[.bool xl, .slice xka xks.length xkc, .slice xg.a xg.l.length xg.cap, .slice xia xis.length xic]] w' (Adding (.bool gr) w') by rw [hgr, hn]; exact great_any _ w' (h.adds hA))
  have HC := hid (fun w' (hA : Adds w w') => show Calls Try.prog 10 #[.agg #[.bool xl, .slice xka xks.length xkc, .slice xg.a xg.l.length xg.cap, .slice xia xis.length xic]] w' (PNd w' n) by rw [hn]; exact PNode.nd (copied_big _ w' (h.adds hA) hbig))
  have HGr := hid hgr
  clear h hn hgr hbig
  obtain ⟨N0, hN0⟩ : ∃ N0, N0 = w.heap.size := ⟨_, rfl⟩
  obtain ⟨w1, hw1⟩ : ∃ w1, w1 = w.alloc (.cells #[.bool xl, .slice xka xks.length xkc, .slice xg.a xg.l.length xg.cap, .slice xia xis.length xic] 26) := ⟨_, rfl⟩
  have A1 := hid (show Adds w w1 by rw [hw1]; exact (Touch.refl _ w).alloc _)
  have X1 := hid (show w1.heap[N0]? = some (.cells #[.bool xl, .slice xka xks.length xkc, .slice xg.a xg.l.length xg.cap, .slice xia xis.length xic] 26) by rw [hw1, hN0]; exact heap_alloc_new w _)
  show Calls Try.prog 3 #[.agg #[.bool xl, .slice xka xks.length xkc, .slice xg.a xg.l.length xg.cap, .slice xia xis.length xic], .int .i64 no, .string ⟨key.toArray⟩] w (Adding (.bool true) w)
  go_enter Try.func3, Try.ntmps3
  go_upto_region 1 with fail
  rw [← hw1, ← hN0]
  clear hw1 hN0
  cases gr with
  | true =>
    go_wp2_with (first
      | (refine wpList_load_row rfl 26 _ rfl N0 rfl 26 _ _ _ X1.out Try.underlying26 rfl (infoR4 _ _ _ _) ?_)
      | (go_at_call 9; refine (HG.out w1 A1.out).mono ?_; rintro e w2 ⟨rfl, hA2⟩; have A2 := hid (A1.out.trans hA2); clear hA2))
    go_ret
    exact ⟨rfl, A2.out⟩
  | false =>
  by_cases h200 : 200 < key.length
  · have h200z : (200 : Int) < (key.length : Int) := by omega
    have h200d : decide ((200 : Int) < (key.length : Int)) = true := decide_eq_true h200z
    go_wp2_with (first
      | (refine wpList_load_row rfl 26 _ rfl N0 rfl 26 _ _ _ X1.out Try.underlying26 rfl (infoR4 _ _ _ _) ?_)
      | (go_at_call 9; refine (HG.out w1 A1.out).mono ?_; rintro e w2 ⟨rfl, hA2⟩; have A2 := hid (A1.out.trans hA2); clear hA2))
    go_ret
    exact ⟨rfl, A2.out⟩
  have h200z : ¬ (200 : Int) < (key.length : Int) := by omega
  have h200d : decide ((200 : Int) < (key.length : Int)) = false := decide_eq_false h200z
  have HB2 := hid (show N.Bd 200 n by have q := HGr.out; rw [HN.out] at q ⊢; exact great_200 q.symm)
  have HS := hid (show NS ⟨xl, xka, xkc, xks, xg, xia, xic, xis⟩ from N.Bd.ns (m := 900) (by rw [← HN.out]; exact HB2.out.mono (by decide)) (by decide))
  go_upto_region 3 with (first
    | (refine wpList_load_row rfl 26 _ rfl N0 rfl 26 _ _ _ X1.out Try.underlying26 rfl (infoR4 _ _ _ _) ?_)
    | (go_at_call 9; refine (HG.out w1 A1.out).mono ?_; rintro e w2 ⟨rfl, hA2⟩; have A2 := hid (A1.out.trans hA2); have X2 := hid (box_adds X1.out hA2); clear hA2))
  clear HG h200 h200z h200d
  go_upto_region 4 with (first
    | (refine wpList_load_row rfl 26 _ rfl N0 rfl 26 _ _ _ X2.out Try.underlying26 rfl (infoR4 _ _ _ _) ?_)
    | (go_at_call 10; refine (HC.out w2 A2.out).mono ?_; rintro e w4 ⟨l, ka, kc, ks, g, ia, ic, is, rfl, H4⟩)
    | (refine wpList_store_row rfl 28 _ _ rfl _ #[.bool l, .slice ka ks.length kc, .slice g.a g.l.length g.cap, .slice ia is.length ic] rfl rfl 28 _ (heap_alloc_new _ _) (info4 _ _ _ _) rfl (one4 _ _ _ _ _ _ _ _ _ _) ?_))
  clear HC
  obtain ⟨N7, hN7⟩ : ∃ N7, N7 = w4.heap.size := ⟨_, rfl⟩
  rw [← hN7]
  obtain ⟨w5, hw5⟩ : ∃ w5, w5 = (w4.alloc NZ).setRow N7 #[.bool l, .slice ka ks.length kc, .slice g.a g.l.length g.cap, .slice ia is.length ic] := ⟨_, rfl⟩
  have HB := hid (boxed H4.out hN7 hw5)
  rw [← hw5]
  clear hw5 hN7
  have A5 := hid (A2.out.trans HB.out.2.2)
  have X5 := hid (box_adds X2.out HB.out.2.2)
  have Y5 := hid HB.out.2.1
  have HZ := hid H4.out.1
  have HZs := hid (show NS ⟨l, ka, kc, ks, g, ia, ic, is⟩ from N.Bd.ns (m := 900) (by rw [HZ.out]; exact HB2.out.mono (by decide)) (by decide))
  obtain ⟨r, hr⟩ : ∃ r, r = N.right n := ⟨_, rfl⟩
  obtain ⟨tk, htk⟩ : ∃ t, t = N.taken n := ⟨_, rfl⟩
  obtain ⟨bp, hbp⟩ : ∃ t, t = N.bytesP no n := ⟨_, rfl⟩
  obtain ⟨er, her⟩ : ∃ t, t = N.bytesE no n := ⟨_, rfl⟩
  obtain ⟨fi, hfi⟩ : ∃ t, t = N.findI n key := ⟨_, rfl⟩
  obtain ⟨fb, hfb⟩ : ∃ t, t = N.findB n key := ⟨_, rfl⟩
  obtain ⟨bn, hbn⟩ : ∃ t, t = bp.length := ⟨_, rfl⟩
  obtain ⟨fz, hfz⟩ : ∃ t, t = (N.right n && decide (N.taken n ≤ 244)) := ⟨_, rfl⟩
  have HRo := hid (fun w' (hA : Adds w5 w') => show Calls Try.prog 15 #[.agg #[.bool l, .slice ka ks.length kc, .slice g.a g.l.length g.cap, .slice ia is.length ic]] w' (Adding (.bool r) w') by
    have q := nright_any ⟨l, ka, kc, ks, g, ia, ic, is⟩ w' (HB.out.1.adds hA).nq HZs.out
    rw [HZ.out, ← hr] at q; exact q)
  have HTo := hid (fun w' (hA : Adds w5 w') => show Calls Try.prog 17 #[.agg #[.bool l, .slice ka ks.length kc, .slice g.a g.l.length g.cap, .slice ia is.length ic]] w' (Adding (.int .i64 (tk : Int)) w') by
    have q := ntaken_any ⟨l, ka, kc, ks, g, ia, ic, is⟩ w' (HB.out.1.adds hA).nq HZs.out
    rw [HZ.out, ← htk] at q; exact q)
  have HFo := hid (fun w' (hA : Adds w5 w') => show Calls Try.prog 19 #[.agg #[.bool l, .slice ka ks.length kc, .slice g.a g.l.length g.cap, .slice ia is.length ic]] w' (Adding (.bool fz) w') by
    have q := nfits_any ⟨l, ka, kc, ks, g, ia, ic, is⟩ w' (HB.out.1.adds hA).nq HZs.out
    rw [HZ.out, ← hfz] at q; exact q)
  have HBo := hid (fun w' (hA : Adds w5 w') => show Calls Try.prog 11 #[.int .i64 no, .agg #[.bool l, .slice ka ks.length kc, .slice g.a g.l.length g.cap, .slice ia is.length ic]] w' (PPg w' bp bn (er : Int)) by
    have q := nbytes_any ⟨l, ka, kc, ks, g, ia, ic, is⟩ no w' (HB.out.1.adds hA).nq HZs.out
    rw [HZ.out, ← hbp, ← her] at q; exact PTold.pg q hbn.symm)
  have HKo := hid (fun w' (hA : Adds w5 w') => show Calls Try.prog 13 #[.agg #[.bool l, .slice ka ks.length kc, .slice g.a g.l.length g.cap, .slice ia is.length ic], .string ⟨key.toArray⟩] w' (Adding (.tuple #[.int .i64 fi, .bool fb]) w') by
    have q := nfind_any ⟨l, ka, kc, ks, g, ia, ic, is⟩ key w' (HB.out.1.adds hA).nq HZs.out
    rw [HZ.out, ← hfi, ← hfb] at q; exact q)
  have HRx := hid (fun w' (hA : Adds w5 w') => show Calls Try.prog 16 #[.agg #[.bool xl, .slice xka xks.length xkc, .slice xg.a xg.l.length xg.cap, .slice xia xis.length xic]] w' (Adding (.bool r) w') by
    have q := rright_any ⟨xl, xka, xkc, xks, xg, xia, xic, xis⟩ w' (HQ.out.adds (A5.out.trans hA)) HS.out
    rw [← HN.out, ← hr] at q; exact q)
  have HTx := hid (fun w' (hA : Adds w5 w') => show Calls Try.prog 18 #[.agg #[.bool xl, .slice xka xks.length xkc, .slice xg.a xg.l.length xg.cap, .slice xia xis.length xic]] w' (Adding (.int .i64 (tk : Int)) w') by
    have q := rtaken14_any ⟨xl, xka, xkc, xks, xg, xia, xic, xis⟩ w' (HQ.out.adds (A5.out.trans hA)) HS.out
    rw [← HN.out, ← htk] at q; exact q)
  have HBx := hid (fun w' (hA : Adds w5 w') => show Calls Try.prog 12 #[.int .i64 no, .agg #[.bool xl, .slice xka xks.length xkc, .slice xg.a xg.l.length xg.cap, .slice xia xis.length xic]] w' (PPg w' bp bn (er : Int)) by
    have q := rbytes14_any no ⟨xl, xka, xkc, xks, xg, xia, xic, xis⟩ w' (HQ.out.adds (A5.out.trans hA)) HS.out
    rw [← HN.out, ← hbp, ← her] at q; exact PTold.pg q hbn.symm)
  have HKx := hid (fun w' (hA : Adds w5 w') => show Calls Try.prog 14 #[.agg #[.bool xl, .slice xka xks.length xkc, .slice xg.a xg.l.length xg.cap, .slice xia xis.length xic], .string ⟨key.toArray⟩] w' (Adding (.tuple #[.int .i64 fi, .bool fb]) w') by
    have q := rfind14_any ⟨xl, xka, xkc, xks, xg, xia, xic, xis⟩ key w' (HQ.out.adds (A5.out.trans hA)) HS.out
    rw [← HN.out, ← hfi, ← hfb] at q; exact q)
  have HSm := hid (fun w' (hA : Adds w5 w') => show Calls Try.prog 20 #[.agg #[.bool l, .slice ka ks.length kc, .slice g.a g.l.length g.cap, .slice ia is.length ic], .agg #[.bool xl, .slice xka xks.length xkc, .slice xg.a xg.l.length xg.cap, .slice xia xis.length xic]] w' (Adding (.bool true) w') by
    have q := same_any ⟨l, ka, kc, ks, g, ia, ic, is⟩ ⟨xl, xka, xkc, xks, xg, xia, xic, xis⟩ w' (HB.out.1.adds hA).nq (HQ.out.adds (A5.out.trans hA)) HZs.out HS.out
    rw [HZ.out, ← HN.out, N.same_refl] at q; exact q)
  have HFz := hid (show fz = (r && decide (tk ≤ 244)) by rw [hfz, hr, htk])
  have HBn := hid hbn
  clear hr htk hbp her hfi hfb hbn hfz
  go_upto_region 5 with (first
    | (refine wpList_load_row rfl 28 _ rfl N7 rfl 28 _ _ _ Y5.out Try.underlying28 rfl (info4 _ _ _ _) ?_)
    | (go_at_call 11; refine (HBo.out w5 (Touch.refl _ _)).mono ?_; rintro e w6 ⟨a6, c6, rfl, H6⟩))
  clear HBo
  have X6 := hid (box_adds X5.out H6.out.2.2)
  have HBx6 := hid (HBx.out w6 H6.out.2.2)
  clear HBx
  go_upto_region 6 with (first
    | (refine wpList_load_row rfl 26 _ rfl N0 rfl 26 _ _ _ X6.out Try.underlying26 rfl (infoR4 _ _ _ _) ?_)
    | (go_at_call 12; refine HBx6.out.mono ?_; rintro e w7 ⟨a7, c7, rfl, H7⟩))
  clear HBx6
  have A7 := hid (H6.out.2.2.trans H7.out.2.2)
  have Y7 := hid (box_adds Y5.out A7.out)
  have HKo7 := hid (HKo.out w7 A7.out)
  clear HKo
  go_upto_region 7 with (first
    | (refine wpList_load_row rfl 28 _ rfl N7 rfl 28 _ _ _ Y7.out Try.underlying28 rfl (info4 _ _ _ _) ?_)
    | (go_at_call 13; refine HKo7.out.mono ?_; rintro e w8 ⟨rfl, hA8⟩; have A8 := hid (A7.out.trans hA8); have HA78 := hid hA8; have X8 := hid (box_adds X6.out (H7.out.2.2.trans hA8)); clear hA8))
  clear HKo7
  have HKx8 := hid (HKx.out w8 A8.out)
  clear HKx
  go_upto_region 8 with (first
    | (refine wpList_load_row rfl 26 _ rfl N0 rfl 26 _ _ _ X8.out Try.underlying26 rfl (infoR4 _ _ _ _) ?_)
    | (go_at_call 14; refine HKx8.out.mono ?_; rintro e w9 ⟨rfl, hA9⟩; have A9 := hid (A8.out.trans hA9); have HB9 := hid hA9; clear hA9))
  clear HKx8
  have X9 := hid (box_adds X5.out A9.out)
  have Y9 := hid (box_adds Y5.out A9.out)
  have HT67 := hid (show Adds w6 w9 ∧ Adds w7 w9 from ⟨H7.out.2.2.trans (HA78.out.trans HB9.out), HA78.out.trans HB9.out⟩)
  have HV6 := hid (fun w' (hA : Adds w9 w') => show (convert 30 9 (.slice a6 bn c6)).run Try.prog w' = .ok (.string ⟨bp.toArray⟩) w' from conv_n (H6.out.1.adds (HT67.out.1.trans hA)) HBn.out)
  have HV7 := hid (fun w' (hA : Adds w9 w') => show (convert 30 9 (.slice a7 bn c7)).run Try.prog w' = .ok (.string ⟨bp.toArray⟩) w' from conv_n (H7.out.1.adds (HT67.out.2.trans hA)) HBn.out)
  have hss : (bp == bp) = true := by simp
  go_cut [6] (fun t wx => t = .bool true ∧ Hid (Adds w9 wx))
  case first =>
    cases r with
    | false =>
      obtain rfl : fz = false := HFz.out
      refine Pe_begin (S := fun W : World => Adds w9 W) (X := 57) (by kernel_rfl) ?_
      have hS : (fun W : World => Adds w9 W) w9.drew := adds_dr w9
      refine Pe_put (i := 0) 49 (v := .agg #[.bool l, .slice ka ks.length kc, .slice g.a g.l.length g.cap, .slice ia is.length ic]) rfl rfl (by kernel_rfl) (by kernel_rfl) (by kernel_rfl) (by kernel_rfl) (fun _ _ _ h => h) (Or.inl ⟨by rfl, fun w' hw' => ?_⟩) hS ?_
      · (obtain ⟨c0, c1, c2, c3⟩ := box_cells (box_adds Y9.out hw'); clear hw'; go_simp)
      simp only [Act.put, List.setIfInBounds_toArray, List.set_cons_zero, List.set_cons_succ]
      refine Pe_put (i := 2) 51 (v := .agg #[.bool xl, .slice xka xks.length xkc, .slice xg.a xg.l.length xg.cap, .slice xia xis.length xic]) rfl rfl (by kernel_rfl) (by kernel_rfl) (by kernel_rfl) (by kernel_rfl) (fun _ _ _ h => h) (Or.inl ⟨by rfl, fun w' hw' => ?_⟩) hS ?_
      · (obtain ⟨c0, c1, c2, c3⟩ := box_cells (box_adds X9.out hw'); clear hw'; go_simp)
      simp only [Act.put, List.setIfInBounds_toArray, List.set_cons_zero, List.set_cons_succ]
      refine Pe_call (i := 1) 50 15 #[.agg #[.bool l, .slice ka ks.length kc, .slice g.a g.l.length g.cap, .slice ia is.length ic]] (by kernel_rfl) rfl rfl (by rfl) (by go_simp) (HRo.out _ (A9.out.trans hS)) ?_
      rintro e wx1 ⟨rfl, hA1⟩
      have hS2 : (fun W : World => Adds w9 W) wx1 := hS.trans hA1
      refine ⟨_, rfl, fun _ => hS2, ?_⟩
      clear hS hA1; have hS := hS2; clear hS2
      simp only [Act.put, List.setIfInBounds_toArray, List.set_cons_zero, List.set_cons_succ]
      refine Pe_call (i := 3) 52 16 #[.agg #[.bool xl, .slice xka xks.length xkc, .slice xg.a xg.l.length xg.cap, .slice xia xis.length xic]] (by kernel_rfl) rfl rfl (by rfl) (by go_simp) (HRx.out _ (A9.out.trans hS)) ?_
      rintro e wx3 ⟨rfl, hA3⟩
      have hS2 : (fun W : World => Adds w9 W) wx3 := hS.trans hA3
      refine ⟨_, rfl, fun _ => hS2, ?_⟩
      clear hS hA3; have hS := hS2; clear hS2
      simp only [Act.put, List.setIfInBounds_toArray, List.set_cons_zero, List.set_cons_succ]
      refine Pe_put (i := 4) 53 (v := .bool true) rfl rfl (by kernel_rfl) (by kernel_rfl) (by kernel_rfl) (by kernel_rfl) (fun _ _ _ h => h) (Or.inl ⟨by rfl, fun w' hw' => ?_⟩) hS ?_
      · go_simp
      simp only [Act.put, List.setIfInBounds_toArray, List.set_cons_zero, List.set_cons_succ]
      refine Pe_put (i := 5) 54 (v := .bool true) rfl rfl (by kernel_rfl) (by kernel_rfl) (by kernel_rfl) (by kernel_rfl) (fun _ _ _ h => h) (Or.inl ⟨by rfl, fun w' hw' => ?_⟩) hS ?_
      · go_simp
      simp only [Act.put, List.setIfInBounds_toArray, List.set_cons_zero, List.set_cons_succ]
      refine Pe_put (i := 6) 55 (v := .agg #[.bool l, .slice ka ks.length kc, .slice g.a g.l.length g.cap, .slice ia is.length ic]) rfl rfl (by kernel_rfl) (by kernel_rfl) (by kernel_rfl) (by kernel_rfl) (fun _ _ _ h => h) (Or.inl ⟨by rfl, fun w' hw' => ?_⟩) hS ?_
      · (obtain ⟨c0, c1, c2, c3⟩ := box_cells (box_adds Y9.out hw'); clear hw'; go_simp)
      simp only [Act.put, List.setIfInBounds_toArray, List.set_cons_zero, List.set_cons_succ]
      refine Pe_put (i := 8) 57 (v := .agg #[.bool xl, .slice xka xks.length xkc, .slice xg.a xg.l.length xg.cap, .slice xia xis.length xic]) rfl rfl (by kernel_rfl) (by kernel_rfl) (by kernel_rfl) (by kernel_rfl) (fun _ _ _ h => h) (Or.inl ⟨by rfl, fun w' hw' => ?_⟩) hS ?_
      · (obtain ⟨c0, c1, c2, c3⟩ := box_cells (box_adds X9.out hw'); clear hw'; go_simp)
      simp only [Act.put, List.setIfInBounds_toArray, List.set_cons_zero, List.set_cons_succ]
      refine Pe_call (i := 7) 56 17 #[.agg #[.bool l, .slice ka ks.length kc, .slice g.a g.l.length g.cap, .slice ia is.length ic]] (by kernel_rfl) rfl rfl (by rfl) (by go_simp) (HTo.out _ (A9.out.trans hS)) ?_
      rintro e wx7 ⟨rfl, hA7⟩
      have hS2 : (fun W : World => Adds w9 W) wx7 := hS.trans hA7
      refine ⟨_, rfl, fun _ => hS2, ?_⟩
      clear hS hA7; have hS := hS2; clear hS2
      simp only [Act.put, List.setIfInBounds_toArray, List.set_cons_zero, List.set_cons_succ]
      refine Pe_call (i := 9) 58 18 #[.agg #[.bool xl, .slice xka xks.length xkc, .slice xg.a xg.l.length xg.cap, .slice xia xis.length xic]] (by kernel_rfl) rfl rfl (by rfl) (by go_simp) (HTx.out _ (A9.out.trans hS)) ?_
      rintro e wx9 ⟨rfl, hA9⟩
      have hS2 : (fun W : World => Adds w9 W) wx9 := hS.trans hA9
      refine ⟨_, rfl, fun _ => hS2, ?_⟩
      clear hS hA9; have hS := hS2; clear hS2
      simp only [Act.put, List.setIfInBounds_toArray, List.set_cons_zero, List.set_cons_succ]
      refine Pe_put (i := 10) 59 (v := .bool true) rfl rfl (by kernel_rfl) (by kernel_rfl) (by kernel_rfl) (by kernel_rfl) (fun _ _ _ h => h) (Or.inl ⟨by rfl, fun w' hw' => ?_⟩) hS ?_
      · go_simp
      simp only [Act.put, List.setIfInBounds_toArray, List.set_cons_zero, List.set_cons_succ]
      refine Pe_put (i := 11) 60 (v := .bool true) rfl rfl (by kernel_rfl) (by kernel_rfl) (by kernel_rfl) (by kernel_rfl) (fun _ _ _ h => h) (Or.inl ⟨by rfl, fun w' hw' => ?_⟩) hS ?_
      · go_simp
      simp only [Act.put, List.setIfInBounds_toArray, List.set_cons_zero, List.set_cons_succ]
      refine Pe_put (i := 12) 61 (v := .bool true) rfl rfl (by kernel_rfl) (by kernel_rfl) (by kernel_rfl) (by kernel_rfl) (fun _ _ _ h => h) (Or.inl ⟨by rfl, fun w' hw' => ?_⟩) hS ?_
      · go_simp
      simp only [Act.put, List.setIfInBounds_toArray, List.set_cons_zero, List.set_cons_succ]
      refine Pe_put (i := 13) 62 (v := .agg #[.bool l, .slice ka ks.length kc, .slice g.a g.l.length g.cap, .slice ia is.length ic]) rfl rfl (by kernel_rfl) (by kernel_rfl) (by kernel_rfl) (by kernel_rfl) (fun _ _ _ h => h) (Or.inl ⟨by rfl, fun w' hw' => ?_⟩) hS ?_
      · (obtain ⟨c0, c1, c2, c3⟩ := box_cells (box_adds Y9.out hw'); clear hw'; go_simp)
      simp only [Act.put, List.setIfInBounds_toArray, List.set_cons_zero, List.set_cons_succ]
      refine Pe_put (i := 15) 64 (v := .agg #[.bool xl, .slice xka xks.length xkc, .slice xg.a xg.l.length xg.cap, .slice xia xis.length xic]) rfl rfl (by kernel_rfl) (by kernel_rfl) (by kernel_rfl) (by kernel_rfl) (fun _ _ _ h => h) (Or.inl ⟨by rfl, fun w' hw' => ?_⟩) hS ?_
      · (obtain ⟨c0, c1, c2, c3⟩ := box_cells (box_adds X9.out hw'); clear hw'; go_simp)
      simp only [Act.put, List.setIfInBounds_toArray, List.set_cons_zero, List.set_cons_succ]
      refine Pe_call (i := 14) 63 19 #[.agg #[.bool l, .slice ka ks.length kc, .slice g.a g.l.length g.cap, .slice ia is.length ic]] (by kernel_rfl) rfl rfl (by rfl) (by go_simp) (HFo.out _ (A9.out.trans hS)) ?_
      rintro e wx14 ⟨rfl, hA14⟩
      have hS2 : (fun W : World => Adds w9 W) wx14 := hS.trans hA14
      refine ⟨_, rfl, fun _ => hS2, ?_⟩
      clear hS hA14; have hS := hS2; clear hS2
      simp only [Act.put, List.setIfInBounds_toArray, List.set_cons_zero, List.set_cons_succ]
      refine Pe_call (i := 16) 65 16 #[.agg #[.bool xl, .slice xka xks.length xkc, .slice xg.a xg.l.length xg.cap, .slice xia xis.length xic]] (by kernel_rfl) rfl rfl (by rfl) (by go_simp) (HRx.out _ (A9.out.trans hS)) ?_
      rintro e wx16 ⟨rfl, hA16⟩
      have hS2 : (fun W : World => Adds w9 W) wx16 := hS.trans hA16
      refine ⟨_, rfl, fun _ => hS2, ?_⟩
      clear hS hA16; have hS := hS2; clear hS2
      simp only [Act.put, List.setIfInBounds_toArray, List.set_cons_zero, List.set_cons_succ]
      refine Pe_put (i := 17) 66 (v := .bool false) rfl rfl (by kernel_rfl) (by kernel_rfl) (by kernel_rfl) (by kernel_rfl) (fun _ _ _ h => h) (Or.inl ⟨by rfl, fun w' hw' => ?_⟩) hS ?_
      · go_simp
      simp only [Act.put, List.setIfInBounds_toArray, List.set_cons_zero, List.set_cons_succ]
      refine Pe_put (i := 18) 67 (v := undef) rfl rfl (by kernel_rfl) (by kernel_rfl) (by kernel_rfl) (by kernel_rfl) (fun _ _ _ h => h) (Or.inr ⟨by rfl, rfl⟩) hS ?_
      simp only [Act.put, List.setIfInBounds_toArray, List.set_cons_zero, List.set_cons_succ]
      refine Pe_put (i := 19) 68 (v := undef) rfl rfl (by kernel_rfl) (by kernel_rfl) (by kernel_rfl) (by kernel_rfl) (fun _ _ _ h => h) (Or.inr ⟨by rfl, rfl⟩) hS ?_
      simp only [Act.put, List.setIfInBounds_toArray, List.set_cons_zero, List.set_cons_succ]
      refine Pe_put (i := 20) 69 (v := undef) rfl rfl (by kernel_rfl) (by kernel_rfl) (by kernel_rfl) (by kernel_rfl) (fun _ _ _ h => h) (Or.inr ⟨by rfl, rfl⟩) hS ?_
      simp only [Act.put, List.setIfInBounds_toArray, List.set_cons_zero, List.set_cons_succ]
      refine Pe_put (i := 21) 70 (v := .bool false) rfl rfl (by kernel_rfl) (by kernel_rfl) (by kernel_rfl) (by kernel_rfl) (fun _ _ _ h => h) (Or.inl ⟨by rfl, fun w' hw' => ?_⟩) hS ?_
      · go_simp
      simp only [Act.put, List.setIfInBounds_toArray, List.set_cons_zero, List.set_cons_succ]
      refine Pe_put (i := 22) 71 (v := .bool true) rfl rfl (by kernel_rfl) (by kernel_rfl) (by kernel_rfl) (by kernel_rfl) (fun _ _ _ h => h) (Or.inl ⟨by rfl, fun w' hw' => ?_⟩) hS ?_
      · go_simp
      simp only [Act.put, List.setIfInBounds_toArray, List.set_cons_zero, List.set_cons_succ]
      refine Pe_put (i := 23) 72 (v := .bool true) rfl rfl (by kernel_rfl) (by kernel_rfl) (by kernel_rfl) (by kernel_rfl) (fun _ _ _ h => h) (Or.inl ⟨by rfl, fun w' hw' => ?_⟩) hS ?_
      · go_simp
      simp only [Act.put, List.setIfInBounds_toArray, List.set_cons_zero, List.set_cons_succ]
      refine Pe_put (i := 24) 73 (v := .bool true) rfl rfl (by kernel_rfl) (by kernel_rfl) (by kernel_rfl) (by kernel_rfl) (fun _ _ _ h => h) (Or.inl ⟨by rfl, fun w' hw' => ?_⟩) hS ?_
      · go_simp
      simp only [Act.put, List.setIfInBounds_toArray, List.set_cons_zero, List.set_cons_succ]
      refine Pe_put (i := 25) 74 (v := .slice a6 bn c6) rfl rfl (by kernel_rfl) (by kernel_rfl) (by kernel_rfl) (by kernel_rfl) (fun _ _ _ h => h) (Or.inl ⟨by rfl, fun w' hw' => ?_⟩) hS ?_
      · go_simp
      simp only [Act.put, List.setIfInBounds_toArray, List.set_cons_zero, List.set_cons_succ]
      refine Pe_put (i := 26) 75 (v := .string ⟨bp.toArray⟩) rfl rfl (by kernel_rfl) (by kernel_rfl) (by kernel_rfl) (by kernel_rfl) (fun _ _ _ h => h) (Or.inl ⟨by rfl, fun w' hw' => ?_⟩) hS ?_
      · (have c := HV6.out w' hw'; clear hw'; go_simp)
      simp only [Act.put, List.setIfInBounds_toArray, List.set_cons_zero, List.set_cons_succ]
      refine Pe_put (i := 27) 76 (v := .slice a7 bn c7) rfl rfl (by kernel_rfl) (by kernel_rfl) (by kernel_rfl) (by kernel_rfl) (fun _ _ _ h => h) (Or.inl ⟨by rfl, fun w' hw' => ?_⟩) hS ?_
      · go_simp
      simp only [Act.put, List.setIfInBounds_toArray, List.set_cons_zero, List.set_cons_succ]
      refine Pe_put (i := 28) 77 (v := .string ⟨bp.toArray⟩) rfl rfl (by kernel_rfl) (by kernel_rfl) (by kernel_rfl) (by kernel_rfl) (fun _ _ _ h => h) (Or.inl ⟨by rfl, fun w' hw' => ?_⟩) hS ?_
      · (have c := HV7.out w' hw'; clear hw'; go_simp)
      simp only [Act.put, List.setIfInBounds_toArray, List.set_cons_zero, List.set_cons_succ]
      refine Pe_put (i := 29) 78 (v := .bool true) rfl rfl (by kernel_rfl) (by kernel_rfl) (by kernel_rfl) (by kernel_rfl) (fun _ _ _ h => h) (Or.inl ⟨by rfl, fun w' hw' => ?_⟩) hS ?_
      · go_simp
      simp only [Act.put, List.setIfInBounds_toArray, List.set_cons_zero, List.set_cons_succ]
      refine Pe_put (i := 30) 79 (v := .bool true) rfl rfl (by kernel_rfl) (by kernel_rfl) (by kernel_rfl) (by kernel_rfl) (fun _ _ _ h => h) (Or.inl ⟨by rfl, fun w' hw' => ?_⟩) hS ?_
      · go_simp
      simp only [Act.put, List.setIfInBounds_toArray, List.set_cons_zero, List.set_cons_succ]
      refine Pe_put (i := 31) 80 (v := .bool true) rfl rfl (by kernel_rfl) (by kernel_rfl) (by kernel_rfl) (by kernel_rfl) (fun _ _ _ h => h) (Or.inl ⟨by rfl, fun w' hw' => ?_⟩) hS ?_
      · go_simp
      simp only [Act.put, List.setIfInBounds_toArray, List.set_cons_zero, List.set_cons_succ]
      refine Pe_put (i := 32) 81 (v := .int .i64 (er : Int)) rfl rfl (by kernel_rfl) (by kernel_rfl) (by kernel_rfl) (by kernel_rfl) (fun _ _ _ h => h) (Or.inl ⟨by rfl, fun w' hw' => ?_⟩) hS ?_
      · go_simp
      simp only [Act.put, List.setIfInBounds_toArray, List.set_cons_zero, List.set_cons_succ]
      refine Pe_put (i := 33) 82 (v := .int .i64 (er : Int)) rfl rfl (by kernel_rfl) (by kernel_rfl) (by kernel_rfl) (by kernel_rfl) (fun _ _ _ h => h) (Or.inl ⟨by rfl, fun w' hw' => ?_⟩) hS ?_
      · go_simp
      simp only [Act.put, List.setIfInBounds_toArray, List.set_cons_zero, List.set_cons_succ]
      refine Pe_put (i := 34) 83 (v := .bool true) rfl rfl (by kernel_rfl) (by kernel_rfl) (by kernel_rfl) (by kernel_rfl) (fun _ _ _ h => h) (Or.inl ⟨by rfl, fun w' hw' => ?_⟩) hS ?_
      · go_simp
      simp only [Act.put, List.setIfInBounds_toArray, List.set_cons_zero, List.set_cons_succ]
      refine Pe_put (i := 35) 84 (v := .bool true) rfl rfl (by kernel_rfl) (by kernel_rfl) (by kernel_rfl) (by kernel_rfl) (fun _ _ _ h => h) (Or.inl ⟨by rfl, fun w' hw' => ?_⟩) hS ?_
      · go_simp
      simp only [Act.put, List.setIfInBounds_toArray, List.set_cons_zero, List.set_cons_succ]
      refine Pe_put (i := 36) 85 (v := .bool true) rfl rfl (by kernel_rfl) (by kernel_rfl) (by kernel_rfl) (by kernel_rfl) (fun _ _ _ h => h) (Or.inl ⟨by rfl, fun w' hw' => ?_⟩) hS ?_
      · go_simp
      simp only [Act.put, List.setIfInBounds_toArray, List.set_cons_zero, List.set_cons_succ]
      refine Pe_put (i := 37) 86 (v := .int .i64 fi) rfl rfl (by kernel_rfl) (by kernel_rfl) (by kernel_rfl) (by kernel_rfl) (fun _ _ _ h => h) (Or.inl ⟨by rfl, fun w' hw' => ?_⟩) hS ?_
      · go_simp
      simp only [Act.put, List.setIfInBounds_toArray, List.set_cons_zero, List.set_cons_succ]
      refine Pe_put (i := 38) 87 (v := .int .i64 fi) rfl rfl (by kernel_rfl) (by kernel_rfl) (by kernel_rfl) (by kernel_rfl) (fun _ _ _ h => h) (Or.inl ⟨by rfl, fun w' hw' => ?_⟩) hS ?_
      · go_simp
      simp only [Act.put, List.setIfInBounds_toArray, List.set_cons_zero, List.set_cons_succ]
      refine Pe_put (i := 39) 88 (v := .bool true) rfl rfl (by kernel_rfl) (by kernel_rfl) (by kernel_rfl) (by kernel_rfl) (fun _ _ _ h => h) (Or.inl ⟨by rfl, fun w' hw' => ?_⟩) hS ?_
      · go_simp
      simp only [Act.put, List.setIfInBounds_toArray, List.set_cons_zero, List.set_cons_succ]
      refine Pe_put (i := 40) 89 (v := .bool true) rfl rfl (by kernel_rfl) (by kernel_rfl) (by kernel_rfl) (by kernel_rfl) (fun _ _ _ h => h) (Or.inl ⟨by rfl, fun w' hw' => ?_⟩) hS ?_
      · go_simp
      simp only [Act.put, List.setIfInBounds_toArray, List.set_cons_zero, List.set_cons_succ]
      refine Pe_put (i := 41) 90 (v := .bool true) rfl rfl (by kernel_rfl) (by kernel_rfl) (by kernel_rfl) (by kernel_rfl) (fun _ _ _ h => h) (Or.inl ⟨by rfl, fun w' hw' => ?_⟩) hS ?_
      · go_simp
      simp only [Act.put, List.setIfInBounds_toArray, List.set_cons_zero, List.set_cons_succ]
      refine Pe_put (i := 42) 91 (v := .bool fb) rfl rfl (by kernel_rfl) (by kernel_rfl) (by kernel_rfl) (by kernel_rfl) (fun _ _ _ h => h) (Or.inl ⟨by rfl, fun w' hw' => ?_⟩) hS ?_
      · go_simp
      simp only [Act.put, List.setIfInBounds_toArray, List.set_cons_zero, List.set_cons_succ]
      refine Pe_put (i := 43) 92 (v := .bool fb) rfl rfl (by kernel_rfl) (by kernel_rfl) (by kernel_rfl) (by kernel_rfl) (fun _ _ _ h => h) (Or.inl ⟨by rfl, fun w' hw' => ?_⟩) hS ?_
      · go_simp
      simp only [Act.put, List.setIfInBounds_toArray, List.set_cons_zero, List.set_cons_succ]
      refine Pe_put (i := 44) 93 (v := .bool true) rfl rfl (by kernel_rfl) (by kernel_rfl) (by kernel_rfl) (by kernel_rfl) (fun _ _ _ h => h) (Or.inl ⟨by rfl, fun w' hw' => ?_⟩) hS ?_
      · go_simp
      simp only [Act.put, List.setIfInBounds_toArray, List.set_cons_zero, List.set_cons_succ]
      refine Pe_put (i := 45) 94 (v := .bool true) rfl rfl (by kernel_rfl) (by kernel_rfl) (by kernel_rfl) (by kernel_rfl) (fun _ _ _ h => h) (Or.inl ⟨by rfl, fun w' hw' => ?_⟩) hS ?_
      · go_simp
      simp only [Act.put, List.setIfInBounds_toArray, List.set_cons_zero, List.set_cons_succ]
      refine Pe_put (i := 46) 95 (v := .bool true) rfl rfl (by kernel_rfl) (by kernel_rfl) (by kernel_rfl) (by kernel_rfl) (fun _ _ _ h => h) (Or.inl ⟨by rfl, fun w' hw' => ?_⟩) hS ?_
      · go_simp
      simp only [Act.put, List.setIfInBounds_toArray, List.set_cons_zero, List.set_cons_succ]
      refine Pe_put (i := 47) 96 (v := .agg #[.bool l, .slice ka ks.length kc, .slice g.a g.l.length g.cap, .slice ia is.length ic]) rfl rfl (by kernel_rfl) (by kernel_rfl) (by kernel_rfl) (by kernel_rfl) (fun _ _ _ h => h) (Or.inl ⟨by rfl, fun w' hw' => ?_⟩) hS ?_
      · (obtain ⟨c0, c1, c2, c3⟩ := box_cells (box_adds Y9.out hw'); clear hw'; go_simp)
      simp only [Act.put, List.setIfInBounds_toArray, List.set_cons_zero, List.set_cons_succ]
      refine Pe_put (i := 48) 97 (v := .agg #[.bool xl, .slice xka xks.length xkc, .slice xg.a xg.l.length xg.cap, .slice xia xis.length xic]) rfl rfl (by kernel_rfl) (by kernel_rfl) (by kernel_rfl) (by kernel_rfl) (fun _ _ _ h => h) (Or.inl ⟨by rfl, fun w' hw' => ?_⟩) hS ?_
      · (obtain ⟨c0, c1, c2, c3⟩ := box_cells (box_adds X9.out hw'); clear hw'; go_simp)
      simp only [Act.put, List.setIfInBounds_toArray, List.set_cons_zero, List.set_cons_succ]
      refine Pe_call (i := 49) 98 20 #[.agg #[.bool l, .slice ka ks.length kc, .slice g.a g.l.length g.cap, .slice ia is.length ic], .agg #[.bool xl, .slice xka xks.length xkc, .slice xg.a xg.l.length xg.cap, .slice xia xis.length xic]] (by kernel_rfl) rfl rfl (by rfl) (by go_simp) (HSm.out _ (A9.out.trans hS)) ?_
      rintro e wx49 ⟨rfl, hA49⟩
      have hS2 : (fun W : World => Adds w9 W) wx49 := hS.trans hA49
      refine ⟨_, rfl, fun _ => hS2, ?_⟩
      clear hS hA49; have hS := hS2; clear hS2
      simp only [Act.put, List.setIfInBounds_toArray, List.set_cons_zero, List.set_cons_succ]
      refine Pe_put (i := 50) 99 (v := .bool true) rfl rfl (by kernel_rfl) (by kernel_rfl) (by kernel_rfl) (by kernel_rfl) (fun _ _ _ h => h) (Or.inl ⟨by rfl, fun w' hw' => ?_⟩) hS ?_
      · go_simp
      simp only [Act.put, List.setIfInBounds_toArray, List.set_cons_zero, List.set_cons_succ]
      refine Pe_put (i := 51) 100 (v := .bool true) rfl rfl (by kernel_rfl) (by kernel_rfl) (by kernel_rfl) (by kernel_rfl) (fun _ _ _ h => h) (Or.inl ⟨by rfl, fun w' hw' => ?_⟩) hS ?_
      · go_simp
      simp only [Act.put, List.setIfInBounds_toArray, List.set_cons_zero, List.set_cons_succ]
      refine Pe_put (i := 52) 101 (v := .bool true) rfl rfl (by kernel_rfl) (by kernel_rfl) (by kernel_rfl) (by kernel_rfl) (fun _ _ _ h => h) (Or.inl ⟨by rfl, fun w' hw' => ?_⟩) hS ?_
      · go_simp
      simp only [Act.put, List.setIfInBounds_toArray, List.set_cons_zero, List.set_cons_succ]
      refine Pe_put (i := 53) 102 (v := .bool true) rfl rfl (by kernel_rfl) (by kernel_rfl) (by kernel_rfl) (by kernel_rfl) (fun _ _ _ h => h) (Or.inl ⟨by rfl, fun w' hw' => ?_⟩) hS ?_
      · go_simp
      simp only [Act.put, List.setIfInBounds_toArray, List.set_cons_zero, List.set_cons_succ]
      refine Pe_call (i := 54) 103 21 #[] (by kernel_rfl) rfl rfl (by rfl) (by go_simp) (HW.out _) ?_
      rintro e wx54 ⟨rfl, hA54⟩
      have hS2 : (fun W : World => Adds w9 W) wx54 := hS.trans hA54
      refine ⟨_, rfl, fun _ => hS2, ?_⟩
      clear hS hA54; have hS := hS2; clear hS2
      simp only [Act.put, List.setIfInBounds_toArray, List.set_cons_zero, List.set_cons_succ]
      refine Pe_put (i := 55) 104 (v := .bool true) rfl rfl (by kernel_rfl) (by kernel_rfl) (by kernel_rfl) (by kernel_rfl) (fun _ _ _ h => h) (Or.inl ⟨by rfl, fun w' hw' => ?_⟩) hS ?_
      · go_simp
      simp only [Act.put, List.setIfInBounds_toArray, List.set_cons_zero, List.set_cons_succ]
      refine Pe_put (i := 56) 6 (v := .bool true) rfl rfl (by kernel_rfl) (by kernel_rfl) (by kernel_rfl) (by kernel_rfl) (fun _ _ _ h => h) (Or.inl ⟨by rfl, fun w' hw' => ?_⟩) hS ?_
      · go_simp
      simp only [Act.put, List.setIfInBounds_toArray, List.set_cons_zero, List.set_cons_succ]
      have HEnd := hid hS
      refine Pe_done (by kernel_rfl) ?_ _
      clear hS
      go_wp2
      go_meet
      case rel => exact ⟨rfl, HEnd.out⟩
    | true =>
      by_cases h244 : tk ≤ 244
      · obtain rfl : fz = true := by rw [HFz.out, decide_eq_true h244]; rfl
        have h244z : (tk : Int) ≤ 244 := by omega
        have h244d : decide ((tk : Int) ≤ 244) = true := decide_eq_true h244z
        refine Pe_begin (S := fun W : World => Adds w9 W) (X := 57) (by kernel_rfl) ?_
        have hS : (fun W : World => Adds w9 W) w9.drew := adds_dr w9
        refine Pe_put (i := 0) 49 (v := .agg #[.bool l, .slice ka ks.length kc, .slice g.a g.l.length g.cap, .slice ia is.length ic]) rfl rfl (by kernel_rfl) (by kernel_rfl) (by kernel_rfl) (by kernel_rfl) (fun _ _ _ h => h) (Or.inl ⟨by rfl, fun w' hw' => ?_⟩) hS ?_
        · (obtain ⟨c0, c1, c2, c3⟩ := box_cells (box_adds Y9.out hw'); clear hw'; go_simp)
        simp only [Act.put, List.setIfInBounds_toArray, List.set_cons_zero, List.set_cons_succ]
        refine Pe_put (i := 2) 51 (v := .agg #[.bool xl, .slice xka xks.length xkc, .slice xg.a xg.l.length xg.cap, .slice xia xis.length xic]) rfl rfl (by kernel_rfl) (by kernel_rfl) (by kernel_rfl) (by kernel_rfl) (fun _ _ _ h => h) (Or.inl ⟨by rfl, fun w' hw' => ?_⟩) hS ?_
        · (obtain ⟨c0, c1, c2, c3⟩ := box_cells (box_adds X9.out hw'); clear hw'; go_simp)
        simp only [Act.put, List.setIfInBounds_toArray, List.set_cons_zero, List.set_cons_succ]
        refine Pe_call (i := 1) 50 15 #[.agg #[.bool l, .slice ka ks.length kc, .slice g.a g.l.length g.cap, .slice ia is.length ic]] (by kernel_rfl) rfl rfl (by rfl) (by go_simp) (HRo.out _ (A9.out.trans hS)) ?_
        rintro e wx1 ⟨rfl, hA1⟩
        have hS2 : (fun W : World => Adds w9 W) wx1 := hS.trans hA1
        refine ⟨_, rfl, fun _ => hS2, ?_⟩
        clear hS hA1; have hS := hS2; clear hS2
        simp only [Act.put, List.setIfInBounds_toArray, List.set_cons_zero, List.set_cons_succ]
        refine Pe_call (i := 3) 52 16 #[.agg #[.bool xl, .slice xka xks.length xkc, .slice xg.a xg.l.length xg.cap, .slice xia xis.length xic]] (by kernel_rfl) rfl rfl (by rfl) (by go_simp) (HRx.out _ (A9.out.trans hS)) ?_
        rintro e wx3 ⟨rfl, hA3⟩
        have hS2 : (fun W : World => Adds w9 W) wx3 := hS.trans hA3
        refine ⟨_, rfl, fun _ => hS2, ?_⟩
        clear hS hA3; have hS := hS2; clear hS2
        simp only [Act.put, List.setIfInBounds_toArray, List.set_cons_zero, List.set_cons_succ]
        refine Pe_put (i := 4) 53 (v := .bool true) rfl rfl (by kernel_rfl) (by kernel_rfl) (by kernel_rfl) (by kernel_rfl) (fun _ _ _ h => h) (Or.inl ⟨by rfl, fun w' hw' => ?_⟩) hS ?_
        · go_simp
        simp only [Act.put, List.setIfInBounds_toArray, List.set_cons_zero, List.set_cons_succ]
        refine Pe_put (i := 5) 54 (v := .bool true) rfl rfl (by kernel_rfl) (by kernel_rfl) (by kernel_rfl) (by kernel_rfl) (fun _ _ _ h => h) (Or.inl ⟨by rfl, fun w' hw' => ?_⟩) hS ?_
        · go_simp
        simp only [Act.put, List.setIfInBounds_toArray, List.set_cons_zero, List.set_cons_succ]
        refine Pe_put (i := 6) 55 (v := .agg #[.bool l, .slice ka ks.length kc, .slice g.a g.l.length g.cap, .slice ia is.length ic]) rfl rfl (by kernel_rfl) (by kernel_rfl) (by kernel_rfl) (by kernel_rfl) (fun _ _ _ h => h) (Or.inl ⟨by rfl, fun w' hw' => ?_⟩) hS ?_
        · (obtain ⟨c0, c1, c2, c3⟩ := box_cells (box_adds Y9.out hw'); clear hw'; go_simp)
        simp only [Act.put, List.setIfInBounds_toArray, List.set_cons_zero, List.set_cons_succ]
        refine Pe_put (i := 8) 57 (v := .agg #[.bool xl, .slice xka xks.length xkc, .slice xg.a xg.l.length xg.cap, .slice xia xis.length xic]) rfl rfl (by kernel_rfl) (by kernel_rfl) (by kernel_rfl) (by kernel_rfl) (fun _ _ _ h => h) (Or.inl ⟨by rfl, fun w' hw' => ?_⟩) hS ?_
        · (obtain ⟨c0, c1, c2, c3⟩ := box_cells (box_adds X9.out hw'); clear hw'; go_simp)
        simp only [Act.put, List.setIfInBounds_toArray, List.set_cons_zero, List.set_cons_succ]
        refine Pe_call (i := 7) 56 17 #[.agg #[.bool l, .slice ka ks.length kc, .slice g.a g.l.length g.cap, .slice ia is.length ic]] (by kernel_rfl) rfl rfl (by rfl) (by go_simp) (HTo.out _ (A9.out.trans hS)) ?_
        rintro e wx7 ⟨rfl, hA7⟩
        have hS2 : (fun W : World => Adds w9 W) wx7 := hS.trans hA7
        refine ⟨_, rfl, fun _ => hS2, ?_⟩
        clear hS hA7; have hS := hS2; clear hS2
        simp only [Act.put, List.setIfInBounds_toArray, List.set_cons_zero, List.set_cons_succ]
        refine Pe_call (i := 9) 58 18 #[.agg #[.bool xl, .slice xka xks.length xkc, .slice xg.a xg.l.length xg.cap, .slice xia xis.length xic]] (by kernel_rfl) rfl rfl (by rfl) (by go_simp) (HTx.out _ (A9.out.trans hS)) ?_
        rintro e wx9 ⟨rfl, hA9⟩
        have hS2 : (fun W : World => Adds w9 W) wx9 := hS.trans hA9
        refine ⟨_, rfl, fun _ => hS2, ?_⟩
        clear hS hA9; have hS := hS2; clear hS2
        simp only [Act.put, List.setIfInBounds_toArray, List.set_cons_zero, List.set_cons_succ]
        refine Pe_put (i := 10) 59 (v := .bool true) rfl rfl (by kernel_rfl) (by kernel_rfl) (by kernel_rfl) (by kernel_rfl) (fun _ _ _ h => h) (Or.inl ⟨by rfl, fun w' hw' => ?_⟩) hS ?_
        · go_simp
        simp only [Act.put, List.setIfInBounds_toArray, List.set_cons_zero, List.set_cons_succ]
        refine Pe_put (i := 11) 60 (v := .bool true) rfl rfl (by kernel_rfl) (by kernel_rfl) (by kernel_rfl) (by kernel_rfl) (fun _ _ _ h => h) (Or.inl ⟨by rfl, fun w' hw' => ?_⟩) hS ?_
        · go_simp
        simp only [Act.put, List.setIfInBounds_toArray, List.set_cons_zero, List.set_cons_succ]
        refine Pe_put (i := 12) 61 (v := .bool true) rfl rfl (by kernel_rfl) (by kernel_rfl) (by kernel_rfl) (by kernel_rfl) (fun _ _ _ h => h) (Or.inl ⟨by rfl, fun w' hw' => ?_⟩) hS ?_
        · go_simp
        simp only [Act.put, List.setIfInBounds_toArray, List.set_cons_zero, List.set_cons_succ]
        refine Pe_put (i := 13) 62 (v := .agg #[.bool l, .slice ka ks.length kc, .slice g.a g.l.length g.cap, .slice ia is.length ic]) rfl rfl (by kernel_rfl) (by kernel_rfl) (by kernel_rfl) (by kernel_rfl) (fun _ _ _ h => h) (Or.inl ⟨by rfl, fun w' hw' => ?_⟩) hS ?_
        · (obtain ⟨c0, c1, c2, c3⟩ := box_cells (box_adds Y9.out hw'); clear hw'; go_simp)
        simp only [Act.put, List.setIfInBounds_toArray, List.set_cons_zero, List.set_cons_succ]
        refine Pe_put (i := 15) 64 (v := .agg #[.bool xl, .slice xka xks.length xkc, .slice xg.a xg.l.length xg.cap, .slice xia xis.length xic]) rfl rfl (by kernel_rfl) (by kernel_rfl) (by kernel_rfl) (by kernel_rfl) (fun _ _ _ h => h) (Or.inl ⟨by rfl, fun w' hw' => ?_⟩) hS ?_
        · (obtain ⟨c0, c1, c2, c3⟩ := box_cells (box_adds X9.out hw'); clear hw'; go_simp)
        simp only [Act.put, List.setIfInBounds_toArray, List.set_cons_zero, List.set_cons_succ]
        refine Pe_call (i := 14) 63 19 #[.agg #[.bool l, .slice ka ks.length kc, .slice g.a g.l.length g.cap, .slice ia is.length ic]] (by kernel_rfl) rfl rfl (by rfl) (by go_simp) (HFo.out _ (A9.out.trans hS)) ?_
        rintro e wx14 ⟨rfl, hA14⟩
        have hS2 : (fun W : World => Adds w9 W) wx14 := hS.trans hA14
        refine ⟨_, rfl, fun _ => hS2, ?_⟩
        clear hS hA14; have hS := hS2; clear hS2
        simp only [Act.put, List.setIfInBounds_toArray, List.set_cons_zero, List.set_cons_succ]
        refine Pe_call (i := 16) 65 16 #[.agg #[.bool xl, .slice xka xks.length xkc, .slice xg.a xg.l.length xg.cap, .slice xia xis.length xic]] (by kernel_rfl) rfl rfl (by rfl) (by go_simp) (HRx.out _ (A9.out.trans hS)) ?_
        rintro e wx16 ⟨rfl, hA16⟩
        have hS2 : (fun W : World => Adds w9 W) wx16 := hS.trans hA16
        refine ⟨_, rfl, fun _ => hS2, ?_⟩
        clear hS hA16; have hS := hS2; clear hS2
        simp only [Act.put, List.setIfInBounds_toArray, List.set_cons_zero, List.set_cons_succ]
        refine Pe_put (i := 17) 66 (v := .bool true) rfl rfl (by kernel_rfl) (by kernel_rfl) (by kernel_rfl) (by kernel_rfl) (fun _ _ _ h => h) (Or.inl ⟨by rfl, fun w' hw' => ?_⟩) hS ?_
        · go_simp
        simp only [Act.put, List.setIfInBounds_toArray, List.set_cons_zero, List.set_cons_succ]
        refine Pe_put (i := 18) 67 (v := .agg #[.bool xl, .slice xka xks.length xkc, .slice xg.a xg.l.length xg.cap, .slice xia xis.length xic]) rfl rfl (by kernel_rfl) (by kernel_rfl) (by kernel_rfl) (by kernel_rfl) (fun _ _ _ h => h) (Or.inl ⟨by rfl, fun w' hw' => ?_⟩) hS ?_
        · (obtain ⟨c0, c1, c2, c3⟩ := box_cells (box_adds X9.out hw'); clear hw'; go_simp)
        simp only [Act.put, List.setIfInBounds_toArray, List.set_cons_zero, List.set_cons_succ]
        refine Pe_call (i := 19) 68 18 #[.agg #[.bool xl, .slice xka xks.length xkc, .slice xg.a xg.l.length xg.cap, .slice xia xis.length xic]] (by kernel_rfl) rfl rfl (by rfl) (by go_simp) (HTx.out _ (A9.out.trans hS)) ?_
        rintro e wx19 ⟨rfl, hA19⟩
        have hS2 : (fun W : World => Adds w9 W) wx19 := hS.trans hA19
        refine ⟨_, rfl, fun _ => hS2, ?_⟩
        clear hS hA19; have hS := hS2; clear hS2
        simp only [Act.put, List.setIfInBounds_toArray, List.set_cons_zero, List.set_cons_succ]
        refine Pe_put (i := 20) 69 (v := .bool true) rfl rfl (by kernel_rfl) (by kernel_rfl) (by kernel_rfl) (by kernel_rfl) (fun _ _ _ h => h) (Or.inl ⟨by rfl, fun w' hw' => ?_⟩) hS ?_
        · go_simp
        simp only [Act.put, List.setIfInBounds_toArray, List.set_cons_zero, List.set_cons_succ]
        refine Pe_put (i := 21) 70 (v := .bool true) rfl rfl (by kernel_rfl) (by kernel_rfl) (by kernel_rfl) (by kernel_rfl) (fun _ _ _ h => h) (Or.inl ⟨by rfl, fun w' hw' => ?_⟩) hS ?_
        · go_simp
        simp only [Act.put, List.setIfInBounds_toArray, List.set_cons_zero, List.set_cons_succ]
        refine Pe_put (i := 22) 71 (v := .bool true) rfl rfl (by kernel_rfl) (by kernel_rfl) (by kernel_rfl) (by kernel_rfl) (fun _ _ _ h => h) (Or.inl ⟨by rfl, fun w' hw' => ?_⟩) hS ?_
        · go_simp
        simp only [Act.put, List.setIfInBounds_toArray, List.set_cons_zero, List.set_cons_succ]
        refine Pe_put (i := 23) 72 (v := .bool true) rfl rfl (by kernel_rfl) (by kernel_rfl) (by kernel_rfl) (by kernel_rfl) (fun _ _ _ h => h) (Or.inl ⟨by rfl, fun w' hw' => ?_⟩) hS ?_
        · go_simp
        simp only [Act.put, List.setIfInBounds_toArray, List.set_cons_zero, List.set_cons_succ]
        refine Pe_put (i := 24) 73 (v := .bool true) rfl rfl (by kernel_rfl) (by kernel_rfl) (by kernel_rfl) (by kernel_rfl) (fun _ _ _ h => h) (Or.inl ⟨by rfl, fun w' hw' => ?_⟩) hS ?_
        · go_simp
        simp only [Act.put, List.setIfInBounds_toArray, List.set_cons_zero, List.set_cons_succ]
        refine Pe_put (i := 25) 74 (v := .slice a6 bn c6) rfl rfl (by kernel_rfl) (by kernel_rfl) (by kernel_rfl) (by kernel_rfl) (fun _ _ _ h => h) (Or.inl ⟨by rfl, fun w' hw' => ?_⟩) hS ?_
        · go_simp
        simp only [Act.put, List.setIfInBounds_toArray, List.set_cons_zero, List.set_cons_succ]
        refine Pe_put (i := 26) 75 (v := .string ⟨bp.toArray⟩) rfl rfl (by kernel_rfl) (by kernel_rfl) (by kernel_rfl) (by kernel_rfl) (fun _ _ _ h => h) (Or.inl ⟨by rfl, fun w' hw' => ?_⟩) hS ?_
        · (have c := HV6.out w' hw'; clear hw'; go_simp)
        simp only [Act.put, List.setIfInBounds_toArray, List.set_cons_zero, List.set_cons_succ]
        refine Pe_put (i := 27) 76 (v := .slice a7 bn c7) rfl rfl (by kernel_rfl) (by kernel_rfl) (by kernel_rfl) (by kernel_rfl) (fun _ _ _ h => h) (Or.inl ⟨by rfl, fun w' hw' => ?_⟩) hS ?_
        · go_simp
        simp only [Act.put, List.setIfInBounds_toArray, List.set_cons_zero, List.set_cons_succ]
        refine Pe_put (i := 28) 77 (v := .string ⟨bp.toArray⟩) rfl rfl (by kernel_rfl) (by kernel_rfl) (by kernel_rfl) (by kernel_rfl) (fun _ _ _ h => h) (Or.inl ⟨by rfl, fun w' hw' => ?_⟩) hS ?_
        · (have c := HV7.out w' hw'; clear hw'; go_simp)
        simp only [Act.put, List.setIfInBounds_toArray, List.set_cons_zero, List.set_cons_succ]
        refine Pe_put (i := 29) 78 (v := .bool true) rfl rfl (by kernel_rfl) (by kernel_rfl) (by kernel_rfl) (by kernel_rfl) (fun _ _ _ h => h) (Or.inl ⟨by rfl, fun w' hw' => ?_⟩) hS ?_
        · go_simp
        simp only [Act.put, List.setIfInBounds_toArray, List.set_cons_zero, List.set_cons_succ]
        refine Pe_put (i := 30) 79 (v := .bool true) rfl rfl (by kernel_rfl) (by kernel_rfl) (by kernel_rfl) (by kernel_rfl) (fun _ _ _ h => h) (Or.inl ⟨by rfl, fun w' hw' => ?_⟩) hS ?_
        · go_simp
        simp only [Act.put, List.setIfInBounds_toArray, List.set_cons_zero, List.set_cons_succ]
        refine Pe_put (i := 31) 80 (v := .bool true) rfl rfl (by kernel_rfl) (by kernel_rfl) (by kernel_rfl) (by kernel_rfl) (fun _ _ _ h => h) (Or.inl ⟨by rfl, fun w' hw' => ?_⟩) hS ?_
        · go_simp
        simp only [Act.put, List.setIfInBounds_toArray, List.set_cons_zero, List.set_cons_succ]
        refine Pe_put (i := 32) 81 (v := .int .i64 (er : Int)) rfl rfl (by kernel_rfl) (by kernel_rfl) (by kernel_rfl) (by kernel_rfl) (fun _ _ _ h => h) (Or.inl ⟨by rfl, fun w' hw' => ?_⟩) hS ?_
        · go_simp
        simp only [Act.put, List.setIfInBounds_toArray, List.set_cons_zero, List.set_cons_succ]
        refine Pe_put (i := 33) 82 (v := .int .i64 (er : Int)) rfl rfl (by kernel_rfl) (by kernel_rfl) (by kernel_rfl) (by kernel_rfl) (fun _ _ _ h => h) (Or.inl ⟨by rfl, fun w' hw' => ?_⟩) hS ?_
        · go_simp
        simp only [Act.put, List.setIfInBounds_toArray, List.set_cons_zero, List.set_cons_succ]
        refine Pe_put (i := 34) 83 (v := .bool true) rfl rfl (by kernel_rfl) (by kernel_rfl) (by kernel_rfl) (by kernel_rfl) (fun _ _ _ h => h) (Or.inl ⟨by rfl, fun w' hw' => ?_⟩) hS ?_
        · go_simp
        simp only [Act.put, List.setIfInBounds_toArray, List.set_cons_zero, List.set_cons_succ]
        refine Pe_put (i := 35) 84 (v := .bool true) rfl rfl (by kernel_rfl) (by kernel_rfl) (by kernel_rfl) (by kernel_rfl) (fun _ _ _ h => h) (Or.inl ⟨by rfl, fun w' hw' => ?_⟩) hS ?_
        · go_simp
        simp only [Act.put, List.setIfInBounds_toArray, List.set_cons_zero, List.set_cons_succ]
        refine Pe_put (i := 36) 85 (v := .bool true) rfl rfl (by kernel_rfl) (by kernel_rfl) (by kernel_rfl) (by kernel_rfl) (fun _ _ _ h => h) (Or.inl ⟨by rfl, fun w' hw' => ?_⟩) hS ?_
        · go_simp
        simp only [Act.put, List.setIfInBounds_toArray, List.set_cons_zero, List.set_cons_succ]
        refine Pe_put (i := 37) 86 (v := .int .i64 fi) rfl rfl (by kernel_rfl) (by kernel_rfl) (by kernel_rfl) (by kernel_rfl) (fun _ _ _ h => h) (Or.inl ⟨by rfl, fun w' hw' => ?_⟩) hS ?_
        · go_simp
        simp only [Act.put, List.setIfInBounds_toArray, List.set_cons_zero, List.set_cons_succ]
        refine Pe_put (i := 38) 87 (v := .int .i64 fi) rfl rfl (by kernel_rfl) (by kernel_rfl) (by kernel_rfl) (by kernel_rfl) (fun _ _ _ h => h) (Or.inl ⟨by rfl, fun w' hw' => ?_⟩) hS ?_
        · go_simp
        simp only [Act.put, List.setIfInBounds_toArray, List.set_cons_zero, List.set_cons_succ]
        refine Pe_put (i := 39) 88 (v := .bool true) rfl rfl (by kernel_rfl) (by kernel_rfl) (by kernel_rfl) (by kernel_rfl) (fun _ _ _ h => h) (Or.inl ⟨by rfl, fun w' hw' => ?_⟩) hS ?_
        · go_simp
        simp only [Act.put, List.setIfInBounds_toArray, List.set_cons_zero, List.set_cons_succ]
        refine Pe_put (i := 40) 89 (v := .bool true) rfl rfl (by kernel_rfl) (by kernel_rfl) (by kernel_rfl) (by kernel_rfl) (fun _ _ _ h => h) (Or.inl ⟨by rfl, fun w' hw' => ?_⟩) hS ?_
        · go_simp
        simp only [Act.put, List.setIfInBounds_toArray, List.set_cons_zero, List.set_cons_succ]
        refine Pe_put (i := 41) 90 (v := .bool true) rfl rfl (by kernel_rfl) (by kernel_rfl) (by kernel_rfl) (by kernel_rfl) (fun _ _ _ h => h) (Or.inl ⟨by rfl, fun w' hw' => ?_⟩) hS ?_
        · go_simp
        simp only [Act.put, List.setIfInBounds_toArray, List.set_cons_zero, List.set_cons_succ]
        refine Pe_put (i := 42) 91 (v := .bool fb) rfl rfl (by kernel_rfl) (by kernel_rfl) (by kernel_rfl) (by kernel_rfl) (fun _ _ _ h => h) (Or.inl ⟨by rfl, fun w' hw' => ?_⟩) hS ?_
        · go_simp
        simp only [Act.put, List.setIfInBounds_toArray, List.set_cons_zero, List.set_cons_succ]
        refine Pe_put (i := 43) 92 (v := .bool fb) rfl rfl (by kernel_rfl) (by kernel_rfl) (by kernel_rfl) (by kernel_rfl) (fun _ _ _ h => h) (Or.inl ⟨by rfl, fun w' hw' => ?_⟩) hS ?_
        · go_simp
        simp only [Act.put, List.setIfInBounds_toArray, List.set_cons_zero, List.set_cons_succ]
        refine Pe_put (i := 44) 93 (v := .bool true) rfl rfl (by kernel_rfl) (by kernel_rfl) (by kernel_rfl) (by kernel_rfl) (fun _ _ _ h => h) (Or.inl ⟨by rfl, fun w' hw' => ?_⟩) hS ?_
        · go_simp
        simp only [Act.put, List.setIfInBounds_toArray, List.set_cons_zero, List.set_cons_succ]
        refine Pe_put (i := 45) 94 (v := .bool true) rfl rfl (by kernel_rfl) (by kernel_rfl) (by kernel_rfl) (by kernel_rfl) (fun _ _ _ h => h) (Or.inl ⟨by rfl, fun w' hw' => ?_⟩) hS ?_
        · go_simp
        simp only [Act.put, List.setIfInBounds_toArray, List.set_cons_zero, List.set_cons_succ]
        refine Pe_put (i := 46) 95 (v := .bool true) rfl rfl (by kernel_rfl) (by kernel_rfl) (by kernel_rfl) (by kernel_rfl) (fun _ _ _ h => h) (Or.inl ⟨by rfl, fun w' hw' => ?_⟩) hS ?_
        · go_simp
        simp only [Act.put, List.setIfInBounds_toArray, List.set_cons_zero, List.set_cons_succ]
        refine Pe_put (i := 47) 96 (v := .agg #[.bool l, .slice ka ks.length kc, .slice g.a g.l.length g.cap, .slice ia is.length ic]) rfl rfl (by kernel_rfl) (by kernel_rfl) (by kernel_rfl) (by kernel_rfl) (fun _ _ _ h => h) (Or.inl ⟨by rfl, fun w' hw' => ?_⟩) hS ?_
        · (obtain ⟨c0, c1, c2, c3⟩ := box_cells (box_adds Y9.out hw'); clear hw'; go_simp)
        simp only [Act.put, List.setIfInBounds_toArray, List.set_cons_zero, List.set_cons_succ]
        refine Pe_put (i := 48) 97 (v := .agg #[.bool xl, .slice xka xks.length xkc, .slice xg.a xg.l.length xg.cap, .slice xia xis.length xic]) rfl rfl (by kernel_rfl) (by kernel_rfl) (by kernel_rfl) (by kernel_rfl) (fun _ _ _ h => h) (Or.inl ⟨by rfl, fun w' hw' => ?_⟩) hS ?_
        · (obtain ⟨c0, c1, c2, c3⟩ := box_cells (box_adds X9.out hw'); clear hw'; go_simp)
        simp only [Act.put, List.setIfInBounds_toArray, List.set_cons_zero, List.set_cons_succ]
        refine Pe_call (i := 49) 98 20 #[.agg #[.bool l, .slice ka ks.length kc, .slice g.a g.l.length g.cap, .slice ia is.length ic], .agg #[.bool xl, .slice xka xks.length xkc, .slice xg.a xg.l.length xg.cap, .slice xia xis.length xic]] (by kernel_rfl) rfl rfl (by rfl) (by go_simp) (HSm.out _ (A9.out.trans hS)) ?_
        rintro e wx49 ⟨rfl, hA49⟩
        have hS2 : (fun W : World => Adds w9 W) wx49 := hS.trans hA49
        refine ⟨_, rfl, fun _ => hS2, ?_⟩
        clear hS hA49; have hS := hS2; clear hS2
        simp only [Act.put, List.setIfInBounds_toArray, List.set_cons_zero, List.set_cons_succ]
        refine Pe_put (i := 50) 99 (v := .bool true) rfl rfl (by kernel_rfl) (by kernel_rfl) (by kernel_rfl) (by kernel_rfl) (fun _ _ _ h => h) (Or.inl ⟨by rfl, fun w' hw' => ?_⟩) hS ?_
        · go_simp
        simp only [Act.put, List.setIfInBounds_toArray, List.set_cons_zero, List.set_cons_succ]
        refine Pe_put (i := 51) 100 (v := .bool true) rfl rfl (by kernel_rfl) (by kernel_rfl) (by kernel_rfl) (by kernel_rfl) (fun _ _ _ h => h) (Or.inl ⟨by rfl, fun w' hw' => ?_⟩) hS ?_
        · go_simp
        simp only [Act.put, List.setIfInBounds_toArray, List.set_cons_zero, List.set_cons_succ]
        refine Pe_put (i := 52) 101 (v := .bool true) rfl rfl (by kernel_rfl) (by kernel_rfl) (by kernel_rfl) (by kernel_rfl) (fun _ _ _ h => h) (Or.inl ⟨by rfl, fun w' hw' => ?_⟩) hS ?_
        · go_simp
        simp only [Act.put, List.setIfInBounds_toArray, List.set_cons_zero, List.set_cons_succ]
        refine Pe_put (i := 53) 102 (v := .bool true) rfl rfl (by kernel_rfl) (by kernel_rfl) (by kernel_rfl) (by kernel_rfl) (fun _ _ _ h => h) (Or.inl ⟨by rfl, fun w' hw' => ?_⟩) hS ?_
        · go_simp
        simp only [Act.put, List.setIfInBounds_toArray, List.set_cons_zero, List.set_cons_succ]
        refine Pe_call (i := 54) 103 21 #[] (by kernel_rfl) rfl rfl (by rfl) (by go_simp) (HW.out _) ?_
        rintro e wx54 ⟨rfl, hA54⟩
        have hS2 : (fun W : World => Adds w9 W) wx54 := hS.trans hA54
        refine ⟨_, rfl, fun _ => hS2, ?_⟩
        clear hS hA54; have hS := hS2; clear hS2
        simp only [Act.put, List.setIfInBounds_toArray, List.set_cons_zero, List.set_cons_succ]
        refine Pe_put (i := 55) 104 (v := .bool true) rfl rfl (by kernel_rfl) (by kernel_rfl) (by kernel_rfl) (by kernel_rfl) (fun _ _ _ h => h) (Or.inl ⟨by rfl, fun w' hw' => ?_⟩) hS ?_
        · go_simp
        simp only [Act.put, List.setIfInBounds_toArray, List.set_cons_zero, List.set_cons_succ]
        refine Pe_put (i := 56) 6 (v := .bool true) rfl rfl (by kernel_rfl) (by kernel_rfl) (by kernel_rfl) (by kernel_rfl) (fun _ _ _ h => h) (Or.inl ⟨by rfl, fun w' hw' => ?_⟩) hS ?_
        · go_simp
        simp only [Act.put, List.setIfInBounds_toArray, List.set_cons_zero, List.set_cons_succ]
        have HEnd := hid hS
        refine Pe_done (by kernel_rfl) ?_ _
        clear hS
        go_wp2
        go_meet
        case rel => exact ⟨rfl, HEnd.out⟩
      · obtain rfl : fz = false := by rw [HFz.out, decide_eq_false h244]; rfl
        have h244z : ¬ (tk : Int) ≤ 244 := by omega
        have h244d : decide ((tk : Int) ≤ 244) = false := decide_eq_false h244z
        refine Pe_begin (S := fun W : World => Adds w9 W) (X := 57) (by kernel_rfl) ?_
        have hS : (fun W : World => Adds w9 W) w9.drew := adds_dr w9
        refine Pe_put (i := 0) 49 (v := .agg #[.bool l, .slice ka ks.length kc, .slice g.a g.l.length g.cap, .slice ia is.length ic]) rfl rfl (by kernel_rfl) (by kernel_rfl) (by kernel_rfl) (by kernel_rfl) (fun _ _ _ h => h) (Or.inl ⟨by rfl, fun w' hw' => ?_⟩) hS ?_
        · (obtain ⟨c0, c1, c2, c3⟩ := box_cells (box_adds Y9.out hw'); clear hw'; go_simp)
        simp only [Act.put, List.setIfInBounds_toArray, List.set_cons_zero, List.set_cons_succ]
        refine Pe_put (i := 2) 51 (v := .agg #[.bool xl, .slice xka xks.length xkc, .slice xg.a xg.l.length xg.cap, .slice xia xis.length xic]) rfl rfl (by kernel_rfl) (by kernel_rfl) (by kernel_rfl) (by kernel_rfl) (fun _ _ _ h => h) (Or.inl ⟨by rfl, fun w' hw' => ?_⟩) hS ?_
        · (obtain ⟨c0, c1, c2, c3⟩ := box_cells (box_adds X9.out hw'); clear hw'; go_simp)
        simp only [Act.put, List.setIfInBounds_toArray, List.set_cons_zero, List.set_cons_succ]
        refine Pe_call (i := 1) 50 15 #[.agg #[.bool l, .slice ka ks.length kc, .slice g.a g.l.length g.cap, .slice ia is.length ic]] (by kernel_rfl) rfl rfl (by rfl) (by go_simp) (HRo.out _ (A9.out.trans hS)) ?_
        rintro e wx1 ⟨rfl, hA1⟩
        have hS2 : (fun W : World => Adds w9 W) wx1 := hS.trans hA1
        refine ⟨_, rfl, fun _ => hS2, ?_⟩
        clear hS hA1; have hS := hS2; clear hS2
        simp only [Act.put, List.setIfInBounds_toArray, List.set_cons_zero, List.set_cons_succ]
        refine Pe_call (i := 3) 52 16 #[.agg #[.bool xl, .slice xka xks.length xkc, .slice xg.a xg.l.length xg.cap, .slice xia xis.length xic]] (by kernel_rfl) rfl rfl (by rfl) (by go_simp) (HRx.out _ (A9.out.trans hS)) ?_
        rintro e wx3 ⟨rfl, hA3⟩
        have hS2 : (fun W : World => Adds w9 W) wx3 := hS.trans hA3
        refine ⟨_, rfl, fun _ => hS2, ?_⟩
        clear hS hA3; have hS := hS2; clear hS2
        simp only [Act.put, List.setIfInBounds_toArray, List.set_cons_zero, List.set_cons_succ]
        refine Pe_put (i := 4) 53 (v := .bool true) rfl rfl (by kernel_rfl) (by kernel_rfl) (by kernel_rfl) (by kernel_rfl) (fun _ _ _ h => h) (Or.inl ⟨by rfl, fun w' hw' => ?_⟩) hS ?_
        · go_simp
        simp only [Act.put, List.setIfInBounds_toArray, List.set_cons_zero, List.set_cons_succ]
        refine Pe_put (i := 5) 54 (v := .bool true) rfl rfl (by kernel_rfl) (by kernel_rfl) (by kernel_rfl) (by kernel_rfl) (fun _ _ _ h => h) (Or.inl ⟨by rfl, fun w' hw' => ?_⟩) hS ?_
        · go_simp
        simp only [Act.put, List.setIfInBounds_toArray, List.set_cons_zero, List.set_cons_succ]
        refine Pe_put (i := 6) 55 (v := .agg #[.bool l, .slice ka ks.length kc, .slice g.a g.l.length g.cap, .slice ia is.length ic]) rfl rfl (by kernel_rfl) (by kernel_rfl) (by kernel_rfl) (by kernel_rfl) (fun _ _ _ h => h) (Or.inl ⟨by rfl, fun w' hw' => ?_⟩) hS ?_
        · (obtain ⟨c0, c1, c2, c3⟩ := box_cells (box_adds Y9.out hw'); clear hw'; go_simp)
        simp only [Act.put, List.setIfInBounds_toArray, List.set_cons_zero, List.set_cons_succ]
        refine Pe_put (i := 8) 57 (v := .agg #[.bool xl, .slice xka xks.length xkc, .slice xg.a xg.l.length xg.cap, .slice xia xis.length xic]) rfl rfl (by kernel_rfl) (by kernel_rfl) (by kernel_rfl) (by kernel_rfl) (fun _ _ _ h => h) (Or.inl ⟨by rfl, fun w' hw' => ?_⟩) hS ?_
        · (obtain ⟨c0, c1, c2, c3⟩ := box_cells (box_adds X9.out hw'); clear hw'; go_simp)
        simp only [Act.put, List.setIfInBounds_toArray, List.set_cons_zero, List.set_cons_succ]
        refine Pe_call (i := 7) 56 17 #[.agg #[.bool l, .slice ka ks.length kc, .slice g.a g.l.length g.cap, .slice ia is.length ic]] (by kernel_rfl) rfl rfl (by rfl) (by go_simp) (HTo.out _ (A9.out.trans hS)) ?_
        rintro e wx7 ⟨rfl, hA7⟩
        have hS2 : (fun W : World => Adds w9 W) wx7 := hS.trans hA7
        refine ⟨_, rfl, fun _ => hS2, ?_⟩
        clear hS hA7; have hS := hS2; clear hS2
        simp only [Act.put, List.setIfInBounds_toArray, List.set_cons_zero, List.set_cons_succ]
        refine Pe_call (i := 9) 58 18 #[.agg #[.bool xl, .slice xka xks.length xkc, .slice xg.a xg.l.length xg.cap, .slice xia xis.length xic]] (by kernel_rfl) rfl rfl (by rfl) (by go_simp) (HTx.out _ (A9.out.trans hS)) ?_
        rintro e wx9 ⟨rfl, hA9⟩
        have hS2 : (fun W : World => Adds w9 W) wx9 := hS.trans hA9
        refine ⟨_, rfl, fun _ => hS2, ?_⟩
        clear hS hA9; have hS := hS2; clear hS2
        simp only [Act.put, List.setIfInBounds_toArray, List.set_cons_zero, List.set_cons_succ]
        refine Pe_put (i := 10) 59 (v := .bool true) rfl rfl (by kernel_rfl) (by kernel_rfl) (by kernel_rfl) (by kernel_rfl) (fun _ _ _ h => h) (Or.inl ⟨by rfl, fun w' hw' => ?_⟩) hS ?_
        · go_simp
        simp only [Act.put, List.setIfInBounds_toArray, List.set_cons_zero, List.set_cons_succ]
        refine Pe_put (i := 11) 60 (v := .bool true) rfl rfl (by kernel_rfl) (by kernel_rfl) (by kernel_rfl) (by kernel_rfl) (fun _ _ _ h => h) (Or.inl ⟨by rfl, fun w' hw' => ?_⟩) hS ?_
        · go_simp
        simp only [Act.put, List.setIfInBounds_toArray, List.set_cons_zero, List.set_cons_succ]
        refine Pe_put (i := 12) 61 (v := .bool true) rfl rfl (by kernel_rfl) (by kernel_rfl) (by kernel_rfl) (by kernel_rfl) (fun _ _ _ h => h) (Or.inl ⟨by rfl, fun w' hw' => ?_⟩) hS ?_
        · go_simp
        simp only [Act.put, List.setIfInBounds_toArray, List.set_cons_zero, List.set_cons_succ]
        refine Pe_put (i := 13) 62 (v := .agg #[.bool l, .slice ka ks.length kc, .slice g.a g.l.length g.cap, .slice ia is.length ic]) rfl rfl (by kernel_rfl) (by kernel_rfl) (by kernel_rfl) (by kernel_rfl) (fun _ _ _ h => h) (Or.inl ⟨by rfl, fun w' hw' => ?_⟩) hS ?_
        · (obtain ⟨c0, c1, c2, c3⟩ := box_cells (box_adds Y9.out hw'); clear hw'; go_simp)
        simp only [Act.put, List.setIfInBounds_toArray, List.set_cons_zero, List.set_cons_succ]
        refine Pe_put (i := 15) 64 (v := .agg #[.bool xl, .slice xka xks.length xkc, .slice xg.a xg.l.length xg.cap, .slice xia xis.length xic]) rfl rfl (by kernel_rfl) (by kernel_rfl) (by kernel_rfl) (by kernel_rfl) (fun _ _ _ h => h) (Or.inl ⟨by rfl, fun w' hw' => ?_⟩) hS ?_
        · (obtain ⟨c0, c1, c2, c3⟩ := box_cells (box_adds X9.out hw'); clear hw'; go_simp)
        simp only [Act.put, List.setIfInBounds_toArray, List.set_cons_zero, List.set_cons_succ]
        refine Pe_call (i := 14) 63 19 #[.agg #[.bool l, .slice ka ks.length kc, .slice g.a g.l.length g.cap, .slice ia is.length ic]] (by kernel_rfl) rfl rfl (by rfl) (by go_simp) (HFo.out _ (A9.out.trans hS)) ?_
        rintro e wx14 ⟨rfl, hA14⟩
        have hS2 : (fun W : World => Adds w9 W) wx14 := hS.trans hA14
        refine ⟨_, rfl, fun _ => hS2, ?_⟩
        clear hS hA14; have hS := hS2; clear hS2
        simp only [Act.put, List.setIfInBounds_toArray, List.set_cons_zero, List.set_cons_succ]
        refine Pe_call (i := 16) 65 16 #[.agg #[.bool xl, .slice xka xks.length xkc, .slice xg.a xg.l.length xg.cap, .slice xia xis.length xic]] (by kernel_rfl) rfl rfl (by rfl) (by go_simp) (HRx.out _ (A9.out.trans hS)) ?_
        rintro e wx16 ⟨rfl, hA16⟩
        have hS2 : (fun W : World => Adds w9 W) wx16 := hS.trans hA16
        refine ⟨_, rfl, fun _ => hS2, ?_⟩
        clear hS hA16; have hS := hS2; clear hS2
        simp only [Act.put, List.setIfInBounds_toArray, List.set_cons_zero, List.set_cons_succ]
        refine Pe_put (i := 17) 66 (v := .bool true) rfl rfl (by kernel_rfl) (by kernel_rfl) (by kernel_rfl) (by kernel_rfl) (fun _ _ _ h => h) (Or.inl ⟨by rfl, fun w' hw' => ?_⟩) hS ?_
        · go_simp
        simp only [Act.put, List.setIfInBounds_toArray, List.set_cons_zero, List.set_cons_succ]
        refine Pe_put (i := 18) 67 (v := .agg #[.bool xl, .slice xka xks.length xkc, .slice xg.a xg.l.length xg.cap, .slice xia xis.length xic]) rfl rfl (by kernel_rfl) (by kernel_rfl) (by kernel_rfl) (by kernel_rfl) (fun _ _ _ h => h) (Or.inl ⟨by rfl, fun w' hw' => ?_⟩) hS ?_
        · (obtain ⟨c0, c1, c2, c3⟩ := box_cells (box_adds X9.out hw'); clear hw'; go_simp)
        simp only [Act.put, List.setIfInBounds_toArray, List.set_cons_zero, List.set_cons_succ]
        refine Pe_call (i := 19) 68 18 #[.agg #[.bool xl, .slice xka xks.length xkc, .slice xg.a xg.l.length xg.cap, .slice xia xis.length xic]] (by kernel_rfl) rfl rfl (by rfl) (by go_simp) (HTx.out _ (A9.out.trans hS)) ?_
        rintro e wx19 ⟨rfl, hA19⟩
        have hS2 : (fun W : World => Adds w9 W) wx19 := hS.trans hA19
        refine ⟨_, rfl, fun _ => hS2, ?_⟩
        clear hS hA19; have hS := hS2; clear hS2
        simp only [Act.put, List.setIfInBounds_toArray, List.set_cons_zero, List.set_cons_succ]
        refine Pe_put (i := 20) 69 (v := .bool false) rfl rfl (by kernel_rfl) (by kernel_rfl) (by kernel_rfl) (by kernel_rfl) (fun _ _ _ h => h) (Or.inl ⟨by rfl, fun w' hw' => ?_⟩) hS ?_
        · go_simp
        simp only [Act.put, List.setIfInBounds_toArray, List.set_cons_zero, List.set_cons_succ]
        refine Pe_put (i := 21) 70 (v := .bool false) rfl rfl (by kernel_rfl) (by kernel_rfl) (by kernel_rfl) (by kernel_rfl) (fun _ _ _ h => h) (Or.inl ⟨by rfl, fun w' hw' => ?_⟩) hS ?_
        · go_simp
        simp only [Act.put, List.setIfInBounds_toArray, List.set_cons_zero, List.set_cons_succ]
        refine Pe_put (i := 22) 71 (v := .bool true) rfl rfl (by kernel_rfl) (by kernel_rfl) (by kernel_rfl) (by kernel_rfl) (fun _ _ _ h => h) (Or.inl ⟨by rfl, fun w' hw' => ?_⟩) hS ?_
        · go_simp
        simp only [Act.put, List.setIfInBounds_toArray, List.set_cons_zero, List.set_cons_succ]
        refine Pe_put (i := 23) 72 (v := .bool true) rfl rfl (by kernel_rfl) (by kernel_rfl) (by kernel_rfl) (by kernel_rfl) (fun _ _ _ h => h) (Or.inl ⟨by rfl, fun w' hw' => ?_⟩) hS ?_
        · go_simp
        simp only [Act.put, List.setIfInBounds_toArray, List.set_cons_zero, List.set_cons_succ]
        refine Pe_put (i := 24) 73 (v := .bool true) rfl rfl (by kernel_rfl) (by kernel_rfl) (by kernel_rfl) (by kernel_rfl) (fun _ _ _ h => h) (Or.inl ⟨by rfl, fun w' hw' => ?_⟩) hS ?_
        · go_simp
        simp only [Act.put, List.setIfInBounds_toArray, List.set_cons_zero, List.set_cons_succ]
        refine Pe_put (i := 25) 74 (v := .slice a6 bn c6) rfl rfl (by kernel_rfl) (by kernel_rfl) (by kernel_rfl) (by kernel_rfl) (fun _ _ _ h => h) (Or.inl ⟨by rfl, fun w' hw' => ?_⟩) hS ?_
        · go_simp
        simp only [Act.put, List.setIfInBounds_toArray, List.set_cons_zero, List.set_cons_succ]
        refine Pe_put (i := 26) 75 (v := .string ⟨bp.toArray⟩) rfl rfl (by kernel_rfl) (by kernel_rfl) (by kernel_rfl) (by kernel_rfl) (fun _ _ _ h => h) (Or.inl ⟨by rfl, fun w' hw' => ?_⟩) hS ?_
        · (have c := HV6.out w' hw'; clear hw'; go_simp)
        simp only [Act.put, List.setIfInBounds_toArray, List.set_cons_zero, List.set_cons_succ]
        refine Pe_put (i := 27) 76 (v := .slice a7 bn c7) rfl rfl (by kernel_rfl) (by kernel_rfl) (by kernel_rfl) (by kernel_rfl) (fun _ _ _ h => h) (Or.inl ⟨by rfl, fun w' hw' => ?_⟩) hS ?_
        · go_simp
        simp only [Act.put, List.setIfInBounds_toArray, List.set_cons_zero, List.set_cons_succ]
        refine Pe_put (i := 28) 77 (v := .string ⟨bp.toArray⟩) rfl rfl (by kernel_rfl) (by kernel_rfl) (by kernel_rfl) (by kernel_rfl) (fun _ _ _ h => h) (Or.inl ⟨by rfl, fun w' hw' => ?_⟩) hS ?_
        · (have c := HV7.out w' hw'; clear hw'; go_simp)
        simp only [Act.put, List.setIfInBounds_toArray, List.set_cons_zero, List.set_cons_succ]
        refine Pe_put (i := 29) 78 (v := .bool true) rfl rfl (by kernel_rfl) (by kernel_rfl) (by kernel_rfl) (by kernel_rfl) (fun _ _ _ h => h) (Or.inl ⟨by rfl, fun w' hw' => ?_⟩) hS ?_
        · go_simp
        simp only [Act.put, List.setIfInBounds_toArray, List.set_cons_zero, List.set_cons_succ]
        refine Pe_put (i := 30) 79 (v := .bool true) rfl rfl (by kernel_rfl) (by kernel_rfl) (by kernel_rfl) (by kernel_rfl) (fun _ _ _ h => h) (Or.inl ⟨by rfl, fun w' hw' => ?_⟩) hS ?_
        · go_simp
        simp only [Act.put, List.setIfInBounds_toArray, List.set_cons_zero, List.set_cons_succ]
        refine Pe_put (i := 31) 80 (v := .bool true) rfl rfl (by kernel_rfl) (by kernel_rfl) (by kernel_rfl) (by kernel_rfl) (fun _ _ _ h => h) (Or.inl ⟨by rfl, fun w' hw' => ?_⟩) hS ?_
        · go_simp
        simp only [Act.put, List.setIfInBounds_toArray, List.set_cons_zero, List.set_cons_succ]
        refine Pe_put (i := 32) 81 (v := .int .i64 (er : Int)) rfl rfl (by kernel_rfl) (by kernel_rfl) (by kernel_rfl) (by kernel_rfl) (fun _ _ _ h => h) (Or.inl ⟨by rfl, fun w' hw' => ?_⟩) hS ?_
        · go_simp
        simp only [Act.put, List.setIfInBounds_toArray, List.set_cons_zero, List.set_cons_succ]
        refine Pe_put (i := 33) 82 (v := .int .i64 (er : Int)) rfl rfl (by kernel_rfl) (by kernel_rfl) (by kernel_rfl) (by kernel_rfl) (fun _ _ _ h => h) (Or.inl ⟨by rfl, fun w' hw' => ?_⟩) hS ?_
        · go_simp
        simp only [Act.put, List.setIfInBounds_toArray, List.set_cons_zero, List.set_cons_succ]
        refine Pe_put (i := 34) 83 (v := .bool true) rfl rfl (by kernel_rfl) (by kernel_rfl) (by kernel_rfl) (by kernel_rfl) (fun _ _ _ h => h) (Or.inl ⟨by rfl, fun w' hw' => ?_⟩) hS ?_
        · go_simp
        simp only [Act.put, List.setIfInBounds_toArray, List.set_cons_zero, List.set_cons_succ]
        refine Pe_put (i := 35) 84 (v := .bool true) rfl rfl (by kernel_rfl) (by kernel_rfl) (by kernel_rfl) (by kernel_rfl) (fun _ _ _ h => h) (Or.inl ⟨by rfl, fun w' hw' => ?_⟩) hS ?_
        · go_simp
        simp only [Act.put, List.setIfInBounds_toArray, List.set_cons_zero, List.set_cons_succ]
        refine Pe_put (i := 36) 85 (v := .bool true) rfl rfl (by kernel_rfl) (by kernel_rfl) (by kernel_rfl) (by kernel_rfl) (fun _ _ _ h => h) (Or.inl ⟨by rfl, fun w' hw' => ?_⟩) hS ?_
        · go_simp
        simp only [Act.put, List.setIfInBounds_toArray, List.set_cons_zero, List.set_cons_succ]
        refine Pe_put (i := 37) 86 (v := .int .i64 fi) rfl rfl (by kernel_rfl) (by kernel_rfl) (by kernel_rfl) (by kernel_rfl) (fun _ _ _ h => h) (Or.inl ⟨by rfl, fun w' hw' => ?_⟩) hS ?_
        · go_simp
        simp only [Act.put, List.setIfInBounds_toArray, List.set_cons_zero, List.set_cons_succ]
        refine Pe_put (i := 38) 87 (v := .int .i64 fi) rfl rfl (by kernel_rfl) (by kernel_rfl) (by kernel_rfl) (by kernel_rfl) (fun _ _ _ h => h) (Or.inl ⟨by rfl, fun w' hw' => ?_⟩) hS ?_
        · go_simp
        simp only [Act.put, List.setIfInBounds_toArray, List.set_cons_zero, List.set_cons_succ]
        refine Pe_put (i := 39) 88 (v := .bool true) rfl rfl (by kernel_rfl) (by kernel_rfl) (by kernel_rfl) (by kernel_rfl) (fun _ _ _ h => h) (Or.inl ⟨by rfl, fun w' hw' => ?_⟩) hS ?_
        · go_simp
        simp only [Act.put, List.setIfInBounds_toArray, List.set_cons_zero, List.set_cons_succ]
        refine Pe_put (i := 40) 89 (v := .bool true) rfl rfl (by kernel_rfl) (by kernel_rfl) (by kernel_rfl) (by kernel_rfl) (fun _ _ _ h => h) (Or.inl ⟨by rfl, fun w' hw' => ?_⟩) hS ?_
        · go_simp
        simp only [Act.put, List.setIfInBounds_toArray, List.set_cons_zero, List.set_cons_succ]
        refine Pe_put (i := 41) 90 (v := .bool true) rfl rfl (by kernel_rfl) (by kernel_rfl) (by kernel_rfl) (by kernel_rfl) (fun _ _ _ h => h) (Or.inl ⟨by rfl, fun w' hw' => ?_⟩) hS ?_
        · go_simp
        simp only [Act.put, List.setIfInBounds_toArray, List.set_cons_zero, List.set_cons_succ]
        refine Pe_put (i := 42) 91 (v := .bool fb) rfl rfl (by kernel_rfl) (by kernel_rfl) (by kernel_rfl) (by kernel_rfl) (fun _ _ _ h => h) (Or.inl ⟨by rfl, fun w' hw' => ?_⟩) hS ?_
        · go_simp
        simp only [Act.put, List.setIfInBounds_toArray, List.set_cons_zero, List.set_cons_succ]
        refine Pe_put (i := 43) 92 (v := .bool fb) rfl rfl (by kernel_rfl) (by kernel_rfl) (by kernel_rfl) (by kernel_rfl) (fun _ _ _ h => h) (Or.inl ⟨by rfl, fun w' hw' => ?_⟩) hS ?_
        · go_simp
        simp only [Act.put, List.setIfInBounds_toArray, List.set_cons_zero, List.set_cons_succ]
        refine Pe_put (i := 44) 93 (v := .bool true) rfl rfl (by kernel_rfl) (by kernel_rfl) (by kernel_rfl) (by kernel_rfl) (fun _ _ _ h => h) (Or.inl ⟨by rfl, fun w' hw' => ?_⟩) hS ?_
        · go_simp
        simp only [Act.put, List.setIfInBounds_toArray, List.set_cons_zero, List.set_cons_succ]
        refine Pe_put (i := 45) 94 (v := .bool true) rfl rfl (by kernel_rfl) (by kernel_rfl) (by kernel_rfl) (by kernel_rfl) (fun _ _ _ h => h) (Or.inl ⟨by rfl, fun w' hw' => ?_⟩) hS ?_
        · go_simp
        simp only [Act.put, List.setIfInBounds_toArray, List.set_cons_zero, List.set_cons_succ]
        refine Pe_put (i := 46) 95 (v := .bool true) rfl rfl (by kernel_rfl) (by kernel_rfl) (by kernel_rfl) (by kernel_rfl) (fun _ _ _ h => h) (Or.inl ⟨by rfl, fun w' hw' => ?_⟩) hS ?_
        · go_simp
        simp only [Act.put, List.setIfInBounds_toArray, List.set_cons_zero, List.set_cons_succ]
        refine Pe_put (i := 47) 96 (v := .agg #[.bool l, .slice ka ks.length kc, .slice g.a g.l.length g.cap, .slice ia is.length ic]) rfl rfl (by kernel_rfl) (by kernel_rfl) (by kernel_rfl) (by kernel_rfl) (fun _ _ _ h => h) (Or.inl ⟨by rfl, fun w' hw' => ?_⟩) hS ?_
        · (obtain ⟨c0, c1, c2, c3⟩ := box_cells (box_adds Y9.out hw'); clear hw'; go_simp)
        simp only [Act.put, List.setIfInBounds_toArray, List.set_cons_zero, List.set_cons_succ]
        refine Pe_put (i := 48) 97 (v := .agg #[.bool xl, .slice xka xks.length xkc, .slice xg.a xg.l.length xg.cap, .slice xia xis.length xic]) rfl rfl (by kernel_rfl) (by kernel_rfl) (by kernel_rfl) (by kernel_rfl) (fun _ _ _ h => h) (Or.inl ⟨by rfl, fun w' hw' => ?_⟩) hS ?_
        · (obtain ⟨c0, c1, c2, c3⟩ := box_cells (box_adds X9.out hw'); clear hw'; go_simp)
        simp only [Act.put, List.setIfInBounds_toArray, List.set_cons_zero, List.set_cons_succ]
        refine Pe_call (i := 49) 98 20 #[.agg #[.bool l, .slice ka ks.length kc, .slice g.a g.l.length g.cap, .slice ia is.length ic], .agg #[.bool xl, .slice xka xks.length xkc, .slice xg.a xg.l.length xg.cap, .slice xia xis.length xic]] (by kernel_rfl) rfl rfl (by rfl) (by go_simp) (HSm.out _ (A9.out.trans hS)) ?_
        rintro e wx49 ⟨rfl, hA49⟩
        have hS2 : (fun W : World => Adds w9 W) wx49 := hS.trans hA49
        refine ⟨_, rfl, fun _ => hS2, ?_⟩
        clear hS hA49; have hS := hS2; clear hS2
        simp only [Act.put, List.setIfInBounds_toArray, List.set_cons_zero, List.set_cons_succ]
        refine Pe_put (i := 50) 99 (v := .bool true) rfl rfl (by kernel_rfl) (by kernel_rfl) (by kernel_rfl) (by kernel_rfl) (fun _ _ _ h => h) (Or.inl ⟨by rfl, fun w' hw' => ?_⟩) hS ?_
        · go_simp
        simp only [Act.put, List.setIfInBounds_toArray, List.set_cons_zero, List.set_cons_succ]
        refine Pe_put (i := 51) 100 (v := .bool true) rfl rfl (by kernel_rfl) (by kernel_rfl) (by kernel_rfl) (by kernel_rfl) (fun _ _ _ h => h) (Or.inl ⟨by rfl, fun w' hw' => ?_⟩) hS ?_
        · go_simp
        simp only [Act.put, List.setIfInBounds_toArray, List.set_cons_zero, List.set_cons_succ]
        refine Pe_put (i := 52) 101 (v := .bool true) rfl rfl (by kernel_rfl) (by kernel_rfl) (by kernel_rfl) (by kernel_rfl) (fun _ _ _ h => h) (Or.inl ⟨by rfl, fun w' hw' => ?_⟩) hS ?_
        · go_simp
        simp only [Act.put, List.setIfInBounds_toArray, List.set_cons_zero, List.set_cons_succ]
        refine Pe_put (i := 53) 102 (v := .bool true) rfl rfl (by kernel_rfl) (by kernel_rfl) (by kernel_rfl) (by kernel_rfl) (fun _ _ _ h => h) (Or.inl ⟨by rfl, fun w' hw' => ?_⟩) hS ?_
        · go_simp
        simp only [Act.put, List.setIfInBounds_toArray, List.set_cons_zero, List.set_cons_succ]
        refine Pe_call (i := 54) 103 21 #[] (by kernel_rfl) rfl rfl (by rfl) (by go_simp) (HW.out _) ?_
        rintro e wx54 ⟨rfl, hA54⟩
        have hS2 : (fun W : World => Adds w9 W) wx54 := hS.trans hA54
        refine ⟨_, rfl, fun _ => hS2, ?_⟩
        clear hS hA54; have hS := hS2; clear hS2
        simp only [Act.put, List.setIfInBounds_toArray, List.set_cons_zero, List.set_cons_succ]
        refine Pe_put (i := 55) 104 (v := .bool true) rfl rfl (by kernel_rfl) (by kernel_rfl) (by kernel_rfl) (by kernel_rfl) (fun _ _ _ h => h) (Or.inl ⟨by rfl, fun w' hw' => ?_⟩) hS ?_
        · go_simp
        simp only [Act.put, List.setIfInBounds_toArray, List.set_cons_zero, List.set_cons_succ]
        refine Pe_put (i := 56) 6 (v := .bool true) rfl rfl (by kernel_rfl) (by kernel_rfl) (by kernel_rfl) (by kernel_rfl) (fun _ _ _ h => h) (Or.inl ⟨by rfl, fun w' hw' => ?_⟩) hS ?_
        · go_simp
        simp only [Act.put, List.setIfInBounds_toArray, List.set_cons_zero, List.set_cons_succ]
        have HEnd := hid hS
        refine Pe_done (by kernel_rfl) ?_ _
        clear hS
        go_wp2
        go_meet
        case rel => exact ⟨rfl, HEnd.out⟩
  case rest =>
    obtain ⟨rfl, HE⟩ := hcut
    go_wp2_with fail
    go_ret
    exact ⟨rfl, A5.out.trans (A9.out.trans HE.out)⟩
end Go.Proofs.Ytplppnngmlljnaa
