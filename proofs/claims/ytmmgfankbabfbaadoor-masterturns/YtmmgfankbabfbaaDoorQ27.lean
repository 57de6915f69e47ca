/- Texts put together: USave, USave2, USave4, UOn. -/
import Derived.Test.YtmmgfankbabfbaaDoorQ25
import Derived.Test.YtmmgfankbabfbaaDoorQ26
import Derived.Deep.DeepCutAuto
/- Save. -/
namespace Go.Proofs.YtmmgfankbabfbaaDoor
open Go.RowKit
/-- What a Save answers, and leaves. -/
def savW (s : U.MS) (fs : List Nat) (e : Nat) : Int × List UInt8 := (((s.at_ + s.other : Nat) : Int), M.sector e 3 (U.pbytes fs))
def savR (s : U.MS) (fs : List Nat) (e : Nat) (D : dSt) : Int × dSt := goW (fun _ => savW s fs e) 1 0 D
def savE (s : U.MS) (fs : List Nat) (e : Int) (D : dSt) : Int := if e ≤ s.lat.ep ∨ 1000000000 < e then 2 else if 20 < fs.length then 3 else (savR s fs e.toNat D).1
def savD (s : U.MS) (fs : List Nat) (e : Int) (D : dSt) : dSt := if e ≤ s.lat.ep ∨ 1000000000 < e then D else if 20 < fs.length then D else (savR s fs e.toNat D).2
def savM (s : U.MS) (fs : List Nat) (e : Int) (D : dSt) : U.MS := if e ≤ s.lat.ep ∨ 1000000000 < e then s else if 20 < fs.length then s else if (savR s fs e.toNat D).1 = 0 then s.put s.other ⟨e.toNat, fs⟩ else s
set_option maxRecDepth 100000 in
theorem other_lt (s : U.MS) : s.other < 2 := by unfold U.MS.other; split <;> decide
/-- What Save leaves. -/
def PSav (w : World) (OM OD : Nat → Prop) (m p : Nat) (s : U.MS) (D : dSt) (z : Int) (e : Ending) (w' : World) : Prop := e = .returned (.int .i64 z) ∧ Hid (∃ OM' OD', IsMas w' OM' m p s ∧ IsDO w' OD' p D ∧ (∀ k, OM' k → ¬ OD' k) ∧ Touch (fun k => OM k ∨ OD k) w w' ∧ ∀ k, OM' k ∨ OD' k → (OM k ∨ OD k) ∨ (w.heap.size ≤ k ∧ k < w'.heap.size))
theorem PSav.same {w w' : World} {OM OD : Nat → Prop} {m p : Nat} {s : U.MS} {D : dSt} (h : IsMas w OM m p s) (hD : IsDO w OD p D) (hap : ∀ k, OM k → ¬ OD k) (hA : Adds w w') (z : Int) : PSav w OM OD m p s D z (.returned (.int .i64 z)) w' :=
  ⟨rfl, OM, OD, h.adds hA, hD.adds hA, hap, hA.mono (fun _ _ c => c.elim), fun _ c => .inl c⟩
set_option maxRecDepth 100000 in
theorem msave_nil (a : Option Addr) (n cap : Nat) (e : Int) (w : World) : Calls Tryd.prog 16 #[.pointer none, .slice a n cap, .int .i64 e] w (Adding (.int .i64 1) w) := by
  have H := hid (mlatest_nil w)
  have HM := hid mmade_nil
  go_enter Tryd.func16, Tryd.ntmps16
  go_wp2_with (first
    | (go_at_call 14; refine H.out.mono ?_; rintro e w1 ⟨a1, c1, rfl, H1⟩)
    | (go_at_call 36; refine (HM.out _).mono ?_; rintro e _ ⟨rfl, hw⟩; rw [hw]; clear hw))
  go_ret
  exact ⟨rfl, H1.out.2⟩
set_option maxRecDepth 100000 in
theorem msave_zero {O : Nat → Prop} {m : Nat} {x y : NPart} {s : U.MS} (a : Option Addr) (n cap : Nat) (e : Int) (w : World) (h : IsMasV w O m (.pointer none) x y s) (hk : s.Ok) : Calls Tryd.prog 16 #[Ptr m, .slice a n cap, .int .i64 e] w (Adding (.int .i64 1) w) := by
  have H := hid (mlatest_any h hk)
  have HM := hid (fun w' (hA : Adds w w') => mmade_zero m w' (below_adds hA (cellOf h.box 0)))
  unfold PLat at H
  generalize s.lat.fs.length = lf at *
  generalize s.lat.ep = le at *
  clear h
  go_enter Tryd.func16, Tryd.ntmps16
  go_wp2_with (first
    | (go_at_call 14; refine H.out.mono ?_; rintro e w1 ⟨a1, c1, rfl, H1⟩)
    | (go_at_call 36; refine (HM.out w1 H1.out.2).mono ?_; rintro e _ ⟨rfl, hw⟩; rw [hw]; clear hw))
  go_ret
  exact ⟨rfl, H1.out.2⟩
set_option maxRecDepth 100000 in
/-- An epoch, or fields, that may not be. -/
theorem msave_bad {w : World} {OM OD : Nat → Prop} {m p : Nat} {x y : NPart} {s : U.MS} {D : dSt} (h : IsMasV w OM m (Ptr p) x y s) (hD : IsDO w OD p D) (hap : ∀ k, OM k → ¬ OD k) (hk : s.Ok) (a : Option Addr) (n cap : Nat) (e z : Int) (hz : (e ≤ s.lat.ep ∨ 1000000000 < e) ∧ z = 2 ∨ ¬ (e ≤ s.lat.ep ∨ 1000000000 < e) ∧ 20 < n ∧ z = 3) :
    Calls Tryd.prog 16 #[Ptr m, .slice a n cap, .int .i64 e] w (PSav w OM OD m p s D z) := by
  have H := hid (mlatest_any h hk)
  have HM := hid (fun w' (hA : Adds w w') => mmade_yes m p w' (below_adds hA (cellOf h.box 0)))
  have HS := hid (fun w' (hA : Adds w w') => PSav.same ⟨x, y, h⟩ hD hap hA z)
  unfold PLat at H
  generalize s.lat.fs.length = lf at *
  generalize s.lat.ep = le at *
  clear h hD hap hk
  rcases hz with ⟨hb, rfl⟩ | ⟨hb, hn, rfl⟩
  · by_cases h1 : e ≤ (le : Int)
    · have h1b : decide (e ≤ (le : Int)) = true := by simpa using h1
      clear hb h1
      go_enter Tryd.func16, Tryd.ntmps16
      go_wp2_with (first
        | (go_at_call 14; refine H.out.mono ?_; rintro e w1 ⟨a1, c1, rfl, H1⟩)
        | (go_at_call 36; refine (HM.out w1 H1.out.2).mono ?_; rintro e _ ⟨rfl, hw⟩; rw [hw]; clear hw))
      go_ret
      exact HS.out w1 H1.out.2
    · have h1b : decide (e ≤ (le : Int)) = false := by simpa using h1
      have h2b : decide ((1000000000 : Int) < e) = true := by simpa using hb.resolve_left h1
      clear hb h1
      go_enter Tryd.func16, Tryd.ntmps16
      go_wp2_with (first
        | (go_at_call 14; refine H.out.mono ?_; rintro e w1 ⟨a1, c1, rfl, H1⟩)
        | (go_at_call 36; refine (HM.out w1 H1.out.2).mono ?_; rintro e _ ⟨rfl, hw⟩; rw [hw]; clear hw))
      go_ret
      exact HS.out w1 H1.out.2
  · have h1b : decide (e ≤ (le : Int)) = false := by simp; omega
    have h2b : decide ((1000000000 : Int) < e) = false := by simp; omega
    have h3 : (20 : Int) < (n : Int) := by omega
    clear hb hn
    go_enter Tryd.func16, Tryd.ntmps16
    go_wp2_with (first
      | (go_at_call 14; refine H.out.mono ?_; rintro e w1 ⟨a1, c1, rfl, H1⟩)
      | (go_at_call 36; refine (HM.out w1 H1.out.2).mono ?_; rintro e _ ⟨rfl, hw⟩; rw [hw]; clear hw))
    go_ret
    exact HS.out w1 H1.out.2
end Go.Proofs.YtmmgfankbabfbaaDoor

/- Save: the slot is written, and synced. -/
namespace Go.Proofs.YtmmgfankbabfbaaDoor
open Go.RowKit
set_option maxRecDepth 100000 in
theorem i64_small {x y : Int} (hy : x = y) (h0 : 0 ≤ x) (h1 : x ≤ 1000000) : IntKind.i64.wrap x = y := by
  rw [← hy, IntKind.wrap_i64]
  omega
set_option maxRecDepth 100000 in
theorem sav_up {w wc w6 w7 : World} {OM OD O' : Nat → Prop} {m p i : Nat} {x y z : NPart} {s : U.MS} {sl : U.Sl} {D' : dSt} (h : IsMasV w OM m (Ptr p) x y s) (hap : ∀ k, OM k → ¬ OD k) (hlt : ∀ k, OM k ∨ OD k → k < w.heap.size) (hD : IsDO wc O' p D') (hT : Touch OD w wc) (hO : ∀ k, O' k → OD k ∨ (w.heap.size ≤ k ∧ k < wc.heap.size)) (hA : Adds wc w6) (hi : i < 2) (hz : z.ns = sl.fs) (hq : NQ w6 (fun k => wc.heap.size ≤ k) z)
    (hw : w7 = (w6.setCell ⟨m, 2 + 2 * i, none⟩ (.int .i64 (sl.ep : Int))).setCell ⟨m, 2 + 2 * i + 1, none⟩ (.slice z.a sl.fs.length z.cap)) : PSav w OM OD m p (s.put i sl) D' 0 (.returned (.int .i64 0)) w7 := by
  have hM := (h.touch hT hap).touch hA (fun _ _ => id)
  have hs1 := hT.size
  have hs2 := hA.size
  have hm := hlt m (.inl h.om)
  have hM' : IsMasV w6 (fun k => OM k ∨ (wc.heap.size ≤ k ∧ k < w6.heap.size)) m (Ptr p) x y s := ⟨hM.box, hM.xs, hM.ys, hM.qx.mono (fun k _ q => ⟨.inl q.1, q.2⟩), hM.qy.mono (fun k _ q => ⟨.inl q.1, q.2⟩), .inl hM.om⟩
  obtain ⟨x', y', h1, h2⟩ := mas_set hM' hi rfl hz (hq.mono (fun k hk q => ⟨.inr ⟨q, hk⟩, by omega⟩)) hw
  have hs3 := h2.size
  have hOm : ∀ k, O' k → ¬ k = m := fun k q e => by
    rw [e] at q
    rcases hO m q with d | d
    · exact hap m h.om d
    · omega
  refine ⟨rfl, _, O', ⟨x', y', h1⟩, (hD.adds hA).touch h2 hOm, fun k q c => ?_, ((hT.mono (fun _ _ c => .inr c)).trans (hA.mono (fun _ _ c => c.elim))).trans (h2.mono (fun k _ c => .inl (by rw [c]; exact h.om))), fun k q => ?_⟩
  · rcases hO k c with d | d
    · rcases q with q | q
      · exact hap k q d
      · have := hlt k (.inr d); omega
    · rcases q with q | q
      · have := hlt k (.inl q); omega
      · omega
  · rcases q with (q | q) | q
    · exact .inl (.inl q)
    · exact .inr ⟨by omega, by omega⟩
    · rcases hO k q with d | d
      · exact .inl (.inr d)
      · exact .inr ⟨d.1, by omega⟩
set_option maxRecDepth 100000 in
theorem sav_down {w w7 : World} {OM OD : Nat → Prop} {m p : Nat} {x y : NPart} {s : U.MS} {D' : dSt} {z : Int} (h : IsMasV w OM m (Ptr p) x y s) (hap : ∀ k, OM k → ¬ OD k) (hlt : ∀ k, OM k ∨ OD k → k < w.heap.size) (hD : ∃ O', IsDO w7 O' p D' ∧ Touch OD w w7 ∧ ∀ k, O' k → OD k ∨ (w.heap.size ≤ k ∧ k < w7.heap.size)) : PSav w OM OD m p s D' z (.returned (.int .i64 z)) w7 := by
  obtain ⟨O', hD', hT', hO'⟩ := hD
  refine ⟨rfl, OM, O', ⟨x, y, h.touch hT' hap⟩, hD', fun k q c => ?_, hT'.mono (fun _ _ c => .inr c), fun k q => ?_⟩
  · rcases hO' k c with d | d
    · exact hap k q d
    · have := hlt k (.inl q); omega
  · rcases q with q | q
    · exact .inl (.inl q)
    · exact (hO' k q).imp .inr id
set_option maxRecDepth 100000 in
set_option maxHeartbeats 4000000 in
theorem msave_go {w : World} {OM OD Q : Nat → Prop} {m p : Nat} {x y : NPart} {s s' : U.MS} {D D1 D2 D' : dSt} {z1 z2 z : Int} {n0 : Nat} (h : IsMasV w OM m (Ptr p) x y s) (hD : IsDO w OD p D) (hap : ∀ k, OM k → ¬ OD k) (hlt : ∀ k, OM k ∨ OD k → k < w.heap.size) (hk : s.Ok) (hdk : DOk D n0) (hn0 : n0 ≤ 790) (hsz : (s.at_ : Int) + 2 ≤ D.size) (hs2 : D.size ≤ 4096) (hT : Tab w)
    (a : Option Addr) (n cap : Nat) (ns : List Nat) (hn : ns.length = n) (hF : U.Fit ns) (hA : NQ w Q ⟨a, cap, ns⟩) (hQ : ∀ k, Q k → ¬ OD k) (e : Nat) (he : s.lat.ep < e ∧ e ≤ 1000000000)
    (h1 : (if D.left = 0 then (10, D) else (0, D.wrote (savW s ns e).1 (savW s ns e).2)) = (z1, D1)) (h2 : (if D1.left = 0 then (10, D1) else (0, D1.synced)) = (z2, D2)) (hd1 : DOk D1 (n0 + 1))
    (hr1 : z1 ≠ 0 → z = z1 ∧ D' = D1 ∧ s' = s) (hr2 : z1 = 0 → z2 ≠ 0 → z = z2 ∧ D' = D2 ∧ s' = s) (hr3 : z1 = 0 → z2 = 0 → z = 0 ∧ D' = D2 ∧ s' = s.put s.other ⟨e, ns⟩) :
    Calls Tryd.prog 16 #[Ptr m, .slice a n cap, .int .i64 (e : Int)] w (PSav w OM OD m p s' D' z) := by
  have H := hid (mlatest_any h hk)
  have HM := hid (fun w' (hA : Adds w w') => mmade_yes m p w' (below_adds hA (cellOf h.box 0)))
  have HPt := hid (fun w' (hA' : Adds w w') => mput_any a cap n ns hn w' hF (hA.adds hA'))
  obtain ⟨L, hL⟩ : ∃ L, L = (U.pbytes ns).length := ⟨_, rfl⟩
  have HWp := hid (fun w' (hA' : Adds w w') (va : Option Addr) (vc : Nat) (hc : va = none → vc = 0) (hAt : At w' va (U.pbytes ns)) => show Calls Tryd.prog 37 #[.int .u64 (e : Int), .int .u8 3, .slice va L vc] w' (PWrap w' (savW s ns e).2) by
    rw [hL]
    exact swrap_ok e 3 va (U.pbytes ns) vc w' (by omega) (by decide) hF.bytes hc hAt (hT.adds hA'))
  have HOt := hid (fun w' (hA' : Adds w w') => mother_any (h.touch hA' (fun _ _ => id)))
  have hot := other_lt s
  have hat : s.at_ ≤ 4096 := by omega
  have HOv := hid (fun w' (hA' : Adds w w') (g c : Nat) (hS : Sec w' g (savW s ns e).2) (z' : Int) (hz' : z' = (savW s ns e).1) => show Calls Tryd.prog 40 #[Ptr p, .int .i64 z', .slice (some ⟨g, 0, none⟩) 256 c] w' (PWh w' OD p (z1, D1)) by
    rw [hz', ← h1]
    exact dwrite_all (hD.adds hA') hdk (by omega) (savW s ns e).1 (by unfold savW; omega) g c (savW s ns e).2 hS)
  have HSy := hid (fun w' O1 (h' : IsDO w' O1 p D1) => show Calls Tryd.prog 41 #[Ptr p] w' (PWr w' O1 p (z2, D2)) by rw [← h2]; exact dsync_any h' hd1 (by omega))
  have HI := hid (show ((s.at_ : Int) + (s.other : Int)) = (savW s ns e).1 by unfold savW; omega)
  have HAll := hid (And.intro h (And.intro hap hlt))
  have HNs := hid (And.intro hA (And.intro hQ (And.intro hn (hF.len))))
  have H0 := hid (fun w' (hA' : Adds w w') => below_adds hA' (cellOf h.box 0))
  have H1c := hid (fun w' (hA' : Adds w w') => below_adds hA' (cellOf h.box 1))
  have HR1 := hid hr1
  have HR2 := hid hr2
  have HR3 := hid hr3
  have hnl : n ≤ 20 := by rw [← hn]; exact hF.len
  have hd1 : decide (((e : Nat) : Int) ≤ (s.lat.ep : Int)) = false := by simp; omega
  have hd1n : decide (e ≤ s.lat.ep) = false := by simp; omega
  have hd2 : decide ((1000000000 : Int) < (e : Int)) = false := by simp; omega
  have hd2n : decide (1000000000 < e) = false := by simp; omega
  have hd3 : ¬ (20 : Int) < (n : Int) := by omega
  have hel : e ≤ 1000000000 := he.2
  unfold PLat at H
  obtain ⟨lf, hlf⟩ : ∃ lf, lf = s.lat.fs.length := ⟨_, rfl⟩
  obtain ⟨le, hle⟩ : ∃ le, le = s.lat.ep := ⟨_, rfl⟩
  rw [← hlf, ← hle] at H
  rw [← hle] at hd1 hd1n
  obtain ⟨ot, hot2⟩ : ∃ ot, ot = s.other := ⟨_, rfl⟩
  rw [← hot2] at HOt HI hot
  obtain ⟨at_, hat2⟩ : ∃ at_, at_ = s.at_ := ⟨_, rfl⟩
  rw [← hat2] at HI H1c hat
  have HL := hid hL
  have HOT := hid (And.intro hot2 hat2)
  clear h hD hap hlt hk hdk hn0 hsz hs2 hT hn hF hA hQ he h1 h2 hr1 hr2 hr3 hL hlf hle hot2 hat2
  go_enter Tryd.func16, Tryd.ntmps16
  go_upto_region 12 with (first
    | (go_at_call 14; refine H.out.mono ?_; rintro e w1 ⟨a1, c1, rfl, H1⟩)
    | (go_at_call 36; refine (HM.out w1 H1.out.2).mono ?_; rintro e _ ⟨rfl, hw⟩; rw [hw]; clear hw)
    | (go_at_call 38; refine (HPt.out w1 H1.out.2).mono ?_; rintro e w2 ⟨v2, rfl, o2, hA2⟩; obtain ⟨va, vc, hv2, _, hvn, hvq⟩ := own_cq o2; rw [← HL.out] at hv2; subst hv2; have H2 := hid (And.intro hvn (And.intro hvq.at (H1.out.2.trans hA2))); clear o2 hA2 hvn hvq)
    | (go_at_call 37; refine (HWp.out w2 H2.out.2.2 va vc H2.out.1 H2.out.2.1).mono ?_; rintro e w3 ⟨g3, rfl, hg3, hS3, hA3⟩; have H3 := hid (And.intro hg3 (And.intro hS3 (H2.out.2.2.trans hA3))); clear hg3 hS3 hA3)
    | (go_at_call 39; refine (HOt.out w3 H3.out.2.2).mono ?_; rintro e w4 ⟨rfl, hA4⟩; have H4 := hid (And.intro (H3.out.2.1.adds hA4) (H3.out.2.2.trans hA4)); have d0 := H0.out w4 H4.out.2; have d1 := H1c.out w4 H4.out.2; clear hA4))
  go_cut [12, 13] (fun t12 t wx => t12 = .int .i64 (ot : Int) ∧ t = .int .i64 z1 ∧ Hid (∃ O', IsDO wx O' p D1 ∧ Touch OD w wx ∧ ∀ k, O' k → OD k ∨ (w.heap.size ≤ k ∧ k < wx.heap.size)))
  case first =>
    go_region_with (go_at_call 40; refine (HOv.out _ (by first | exact H4.out.2.drew | exact H4.out.2) g3 256 (by first | exact H4.out.1.adds (Touch.refl _ w4).drew | exact H4.out.1) _ (by first | exact HI.out | exact i64_small HI.out (by omega) (by omega))).mono ?_; rintro e w5 ⟨rfl, H5⟩)
    all_goals
      go_wp2_with fail
      go_meet
      obtain ⟨O', hD', hT', hO'⟩ := H5.out
      have hs := H4.out.2.size
      exact ⟨rfl, rfl, O', hD', (H4.out.2.drew.mono (fun _ _ c => c.elim)).trans hT', fun k q => (hO' k q).imp id (fun c => ⟨Nat.le_trans hs (by have c1 := c.1; simp at c1; omega), c.2⟩)⟩
  case rest =>
    obtain ⟨rfl, rfl, H5⟩ := hcut
    obtain ⟨O5, hD5, hT5, hO5⟩ := H5.out
    have H6 := hid (And.intro hD5 (And.intro hT5 hO5))
    clear hD5 hT5 hO5 H5
    by_cases hz1 : z1 = 0
    · subst hz1
      have d05 := cellOf (HAll.out.1.touch H6.out.2.1 HAll.out.2.1).box 0
      by_cases hz2 : z2 = 0
      · subst hz2
        obtain ⟨rfl, rfl, rfl⟩ := HR3.out rfl rfl
        go_upto_region 18 with (first
          | (go_at_call 41; refine (HSy.out _ O5 H6.out.1).mono ?_; rintro e w7 hq7; obtain ⟨rfl, hq8⟩ := PWh.next H6.out.2.1 H6.out.2.2 hq7; clear hq7))
        obtain ⟨O', hD', hT', hO'⟩ := hq8.out
        have H7 := hid (And.intro hD' (And.intro hT' hO'))
        clear hD' hT' hO' hq8
        have hM5 := HAll.out.1.touch H7.out.2.1 HAll.out.2.1
        have hN5 := HNs.out.1.touch H7.out.2.1 HNs.out.2.1
        have M5 := hid hM5
        have HCl := hid (fun w' (hA' : Adds w7 w') => uclone_any a cap n ns HNs.out.2.2.1 w' (by omega) (hN5.adds hA'))
        clear hN5
        have hbl := fun z a n cap w => build_slot2 z a n cap w
        obtain rfl | rfl : ot = 0 ∨ ot = 1 := by omega
        · go_region_with (go_at_call 35; refine (HCl.out _ (by first | exact (Touch.refl _ w7).drew | exact Touch.refl _ w7)).mono ?_; rintro e w8 ⟨a8, cap8, rfl, hH8⟩; have H8 := hid (And.intro hH8.out.1 ((Touch.refl _ w7).drew.trans hH8.out.2)); have hM6 := M5.out.touch H8.out.2 (fun _ _ => id); have c2 := cellOf hM6.box 2; have c3 := cellOf hM6.box 3; have f2 := frozen_of_row w8 _ 2 _ 56 hM6.box; have f3 := frozen_of_row w8 _ 3 _ 56 hM6.box; clear hM6 hH8)
          all_goals
            go_wp2_with fail
            go_ret
            have q := sav_up HAll.out.1 HAll.out.2.1 HAll.out.2.2 H7.out.1 H7.out.2.1 H7.out.2.2 H8.out.2 (i := 0) (by decide) (z := ⟨a8, cap8, ns⟩) (sl := ⟨e, ns⟩) rfl H8.out.1 rfl
            rw [← HOT.out.1]
            exact q
        · go_region_with (go_at_call 35; refine (HCl.out _ (by first | exact (Touch.refl _ w7).drew | exact Touch.refl _ w7)).mono ?_; rintro e w8 ⟨a8, cap8, rfl, hH8⟩; have H8 := hid (And.intro hH8.out.1 ((Touch.refl _ w7).drew.trans hH8.out.2)); have hM6 := M5.out.touch H8.out.2 (fun _ _ => id); have c4 := cellOf hM6.box 4; have c5 := cellOf hM6.box 5; have f4 := frozen_of_row w8 _ 4 _ 56 hM6.box; have f5 := frozen_of_row w8 _ 5 _ 56 hM6.box; clear hM6 hH8)
          all_goals
            go_wp2_with fail
            go_ret
            have q := sav_up HAll.out.1 HAll.out.2.1 HAll.out.2.2 H7.out.1 H7.out.2.1 H7.out.2.2 H8.out.2 (i := 1) (by decide) (z := ⟨a8, cap8, ns⟩) (sl := ⟨e, ns⟩) rfl H8.out.1 rfl
            rw [← HOT.out.1]
            exact q
      · obtain ⟨rfl, rfl, rfl⟩ := HR2.out rfl hz2
        go_wp2_with (first
          | (go_at_call 41; refine (HSy.out _ O5 H6.out.1).mono ?_; rintro e w7 hq7; obtain ⟨rfl, hq8⟩ := PWh.next H6.out.2.1 H6.out.2.2 hq7; clear hq7))
        go_ret
        exact sav_down HAll.out.1 HAll.out.2.1 HAll.out.2.2 hq8.out
    · obtain ⟨rfl, rfl, rfl⟩ := HR1.out hz1
      go_wp2_with fail
      go_ret
      exact sav_down HAll.out.1 HAll.out.2.1 HAll.out.2.2 ⟨O5, H6.out.1, H6.out.2.1, H6.out.2.2⟩
end Go.Proofs.YtmmgfankbabfbaaDoor

/- Save, whatever is handed in; a master and its disk in a law's memory. -/
namespace Go.Proofs.YtmmgfankbabfbaaDoor
open Go.RowKit
set_option maxRecDepth 100000 in
theorem msave_any {w : World} {OM OD Q : Nat → Prop} {m p : Nat} {s : U.MS} {D : dSt} {n0 : Nat} (h : IsMas w OM m p s) (hD : IsDO w OD p D) (hap : ∀ k, OM k → ¬ OD k) (hlt : ∀ k, OM k ∨ OD k → k < w.heap.size) (hk : s.Ok) (hdk : DOk D n0) (hn0 : n0 ≤ 790) (hsz : (s.at_ : Int) + 2 ≤ D.size) (hs2 : D.size ≤ 4096) (hT : Tab w)
    (a : Option Addr) (n cap : Nat) (ns : List Nat) (hn : ns.length = n) (hF : ∀ k ∈ ns, k < 18446744073709551616) (hA : NQ w Q ⟨a, cap, ns⟩) (hQ : ∀ k, Q k → ¬ OD k) (e : Int) :
    Calls Tryd.prog 16 #[Ptr m, .slice a n cap, .int .i64 e] w (PSav w OM OD m p (savM s ns e D) (savD s ns e D) (savE s ns e D)) := by
  obtain ⟨x, y, h⟩ := h
  by_cases hb : e ≤ s.lat.ep ∨ 1000000000 < e
  · rw [savM, savD, savE, if_pos hb, if_pos hb, if_pos hb]
    exact msave_bad h hD hap hk a n cap e 2 (.inl ⟨hb, rfl⟩)
  · rw [savM, savD, savE, if_neg hb, if_neg hb, if_neg hb]
    by_cases hl : 20 < ns.length
    · rw [if_pos hl, if_pos hl, if_pos hl]
      exact msave_bad h hD hap hk a n cap e 3 (.inr ⟨hb, by omega, rfl⟩)
    · rw [if_neg hl, if_neg hl, if_neg hl]
      obtain ⟨k, rfl⟩ : ∃ k : Nat, e = (k : Int) := ⟨e.toNat, by omega⟩
      rw [Int.toNat_natCast]
      have he : s.lat.ep < k ∧ k ≤ 1000000000 := ⟨by omega, by omega⟩
      obtain ⟨z1, D1, h1⟩ : ∃ z1 D1, (if D.left = 0 then (10, D) else (0, D.wrote (savW s ns k).1 (savW s ns k).2)) = ((z1 : Int), D1) := ⟨_, _, rfl⟩
      obtain ⟨z2, D2, h2⟩ : ∃ z2 D2, (if D1.left = 0 then (10, D1) else (0, D1.synced)) = ((z2 : Int), D2) := ⟨_, _, rfl⟩
      have hd1 : DOk D1 (n0 + 1) := by
        by_cases hon : D.left = 0
        · rw [if_pos hon] at h1
          cases h1
          exact hdk.mono (by omega)
        · rw [if_neg hon] at h1
          cases h1
          exact hdk.wrote _ _
      refine msave_go h hD hap hlt hk hdk hn0 hsz hs2 hT a n cap ns hn ⟨by omega, hF⟩ hA hQ k he h1 h2 hd1 (fun hz => ?_) (fun hz hz2 => ?_) (fun hz hz2 => ?_)
      · by_cases hon : D.left = 0
        · rw [if_pos hon] at h1
          cases h1
          have hr : savR s ns k D = (10, D) := by unfold savR goW; rw [if_pos hon]
          rw [hr]
          exact ⟨rfl, rfl, by rw [if_neg (show ¬ (10 : Int) = 0 by decide)]⟩
        · rw [if_neg hon] at h1
          cases h1
          exact absurd rfl hz
      · have hon : ¬ D.left = 0 := fun c => by
          rw [if_pos c] at h1
          cases h1
          exact absurd hz (by decide)
        rw [if_neg hon] at h1
        cases h1
        have hr : savR s ns k D = (z2, D2) := by
          unfold savR goW
          rw [if_neg hon]
          exact h2
        rw [hr]
        exact ⟨rfl, rfl, by rw [if_neg hz2]⟩
      · have hon : ¬ D.left = 0 := fun c => by
          rw [if_pos c] at h1
          cases h1
          exact absurd hz (by decide)
        rw [if_neg hon] at h1
        cases h1
        have hr : savR s ns k D = (z2, D2) := by
          unfold savR goW
          rw [if_neg hon]
          exact h2
        rw [hr]
        exact ⟨hz2, rfl, by rw [if_pos hz2]⟩
/-- A master over its disk; what is of the master is of OM, what is of the disk of OD; all is new since w0. -/
structure Ml (w0 w : World) (OM OD : Nat → Prop) (m p : Nat) (s : U.MS) (D : dSt) : Prop where
  mas : IsMas w OM m p s
  disk : IsDO w OD p D
  apart : ∀ k, OM k → ¬ OD k
  low : ∀ k, OM k ∨ OD k → w0.heap.size ≤ k
  lt : ∀ k, OM k ∨ OD k → k < w.heap.size
  adds : Adds w0 w
theorem Ml.add {w0 w w' : World} {OM OD : Nat → Prop} {m p : Nat} {s : U.MS} {D : dSt} (h : Ml w0 w OM OD m p s D) (hA : Adds w w') : Ml w0 w' OM OD m p s D :=
  ⟨h.mas.adds hA, h.disk.adds hA, h.apart, h.low, fun k q => Nat.lt_of_lt_of_le (h.lt k q) hA.size, h.adds.trans hA⟩
theorem Ml.tab {w0 w : World} {OM OD : Nat → Prop} {m p : Nat} {s : U.MS} {D : dSt} (h : Ml w0 w OM OD m p s D) (hT : Tab w0) : Tab w := hT.adds h.adds
/-- What a call of the law leaves. -/
def PMl (w0 w : World) (OM OD : Nat → Prop) (m p : Nat) (s : U.MS) (D : dSt) (v : Value) (e : Ending) (w' : World) : Prop := e = .returned v ∧ Hid (∃ OM' OD', Ml w0 w' OM' OD' m p s D ∧ Touch (fun k => OM k ∨ OD k) w w' ∧ ∀ k, OM' k ∨ OD' k → (OM k ∨ OD k) ∨ w.heap.size ≤ k)
set_option maxRecDepth 100000 in
theorem PSav.ml {w0 w w' : World} {OM OD : Nat → Prop} {m p : Nat} {s s' : U.MS} {D D' : dSt} {z : Int} {e : Ending} (hw : Ml w0 w OM OD m p s D) (h : PSav w OM OD m p s' D' z e w') : PMl w0 w OM OD m p s' D' (.int .i64 z) e w' := by
  obtain ⟨he, hh⟩ := h
  obtain ⟨OM', OD', h1, h2, h3, h4, h5⟩ := hh.out
  have hs := h4.size
  have hw0 := hw.adds.size
  refine ⟨he, OM', OD', ⟨h1, h2, h3, fun k q => ?_, fun k q => ?_, hw.adds.then h4 (fun k hk c => by have := hw.low k c; omega)⟩, h4, fun k q => ?_⟩
  · rcases h5 k q with c | c
    · exact hw.low k c
    · omega
  · rcases h5 k q with c | c
    · have := hw.lt k c; omega
    · exact c.2
  · rcases h5 k q with c | c
    · exact .inl c
    · exact .inr c.1
theorem ml_save {w0 w : World} {OM OD Q : Nat → Prop} {m p : Nat} {s : U.MS} {D : dSt} {n0 : Nat} (h : Ml w0 w OM OD m p s D) (hk : s.Ok) (hdk : DOk D n0) (hn0 : n0 ≤ 790) (hsz : (s.at_ : Int) + 2 ≤ D.size) (hs2 : D.size ≤ 4096) (hT : Tab w0)
    (a : Option Addr) (n cap : Nat) (ns : List Nat) (hn : ns.length = n) (hF : ∀ k ∈ ns, k < 18446744073709551616) (hA : NQ w Q ⟨a, cap, ns⟩) (hQ : ∀ k, Q k → ¬ OD k) (e : Int) :
    Calls Tryd.prog 16 #[Ptr m, .slice a n cap, .int .i64 e] w (PMl w0 w OM OD m p (savM s ns e D) (savD s ns e D) (.int .i64 (savE s ns e D))) :=
  (msave_any h.mas h.disk h.apart h.lt hk hdk hn0 hsz hs2 (h.tab hT) a n cap ns hn hF hA hQ e).mono (fun _ _ q => q.ml h)
set_option maxRecDepth 100000 in
theorem ml_slot {w0 w : World} {OM OD : Nat → Prop} {m p : Nat} {s : U.MS} {D : dSt} (h : Ml w0 w OM OD m p s D) : Calls Tryd.prog 15 #[Ptr m] w (Adding (.int .i64 s.which) w) := by
  obtain ⟨_, _, q⟩ := h.mas
  exact mslot_any q
set_option maxRecDepth 100000 in
theorem ml_latest {w0 w : World} {OM OD : Nat → Prop} {m p : Nat} {s : U.MS} {D : dSt} (h : Ml w0 w OM OD m p s D) (hk : s.Ok) : Calls Tryd.prog 14 #[Ptr m] w (PLat w s.lat) := by
  obtain ⟨_, _, q⟩ := h.mas
  exact mlatest_any q hk
set_option maxRecDepth 100000 in
theorem ml_steps {w0 w : World} {OM OD : Nat → Prop} {m p : Nat} {s : U.MS} {D : dSt} (h : Ml w0 w OM OD m p s D) (hs : 0 < D.size) : Calls Tryd.prog 22 #[Ptr p] w (Tells (.int .i64 D.steps) w) := by
  obtain ⟨hb, wv, hd, _⟩ := h.disk
  exact steps_any p D.size D.steps w (cellOf hd.box 0) (cellOf hd.box 3) hs
end Go.Proofs.YtmmgfankbabfbaaDoor

/- A master on its disk, by definition. -/
namespace Go.Proofs.YtmmgfankbabfbaaDoor
open Go.RowKit
/-- What a sector has of a slot. -/
def Held (x : List UInt8) (s : U.Sl) : Prop := (x = List.replicate 256 0 ∧ s = ⟨0, []⟩) ∨ (0 < s.ep ∧ s.ep ≤ 1000000000 ∧ U.Fit s.fs ∧ x = M.sector s.ep 3 (U.pbytes s.fs))
set_option maxRecDepth 100000 in
theorem Held.slot {x : List UInt8} {s : U.Sl} (h : Held x s) : U.slot x = s := by
  rcases h with ⟨rfl, rfl⟩ | ⟨h1, h2, h3, rfl⟩
  · exact U.slot_zero
  · exact U.slot_put h1 h2 h3
set_option maxRecDepth 100000 in
theorem Held.ok {x : List UInt8} {s : U.Sl} (h : Held x s) : s.Ok := by
  rcases h with ⟨rfl, rfl⟩ | ⟨h1, h2, h3, rfl⟩
  · exact U.ok_nil
  · exact ⟨h2, h3⟩
set_option maxRecDepth 100000 in
/-- What a sector has that is torn over another one: the one, the other, or none. -/
theorem Held.torn {x : List UInt8} {s : U.Sl} (h : Held x s) {e : Nat} {fs : List Nat} (h0 : s.ep < e) (h1 : e ≤ 1000000000) (hF : U.Fit fs) (a : Nat) (ha : a ≤ 256) :
    (M.sector e 3 (U.pbytes fs)).take a ++ x.drop a = x ∨ (M.sector e 3 (U.pbytes fs)).take a ++ x.drop a = M.sector e 3 (U.pbytes fs) ∨ U.slot ((M.sector e 3 (U.pbytes fs)).take a ++ x.drop a) = ⟨0, []⟩ := by
  have hc : M.cl (a : Int) = a := by unfold M.cl; rw [if_neg (by omega), if_neg (by omega)]; omega
  have et : (M.sector e 3 (U.pbytes fs)).take a ++ x.drop a = M.torn x (M.sector e 3 (U.pbytes fs)) (a : Int) := by unfold M.torn; rw [hc]
  rw [et]
  by_cases hx : M.torn x (M.sector e 3 (U.pbytes fs)) (a : Int) = x
  · exact .inl hx
  · by_cases hy : M.torn x (M.sector e 3 (U.pbytes fs)) (a : Int) = M.sector e 3 (U.pbytes fs)
    · exact .inr (.inl hy)
    · refine .inr (.inr (U.slot_no (.inl ?_)))
      have q : M.unfix (M.fix e 8) = e := by rw [M.unfix_fix, Nat.mod_eq_of_lt (by omega)]
      rcases h with ⟨rfl, rfl⟩ | ⟨h2, h3, h4, rfl⟩
      · refine M.torn_whole (a := List.replicate 8 0) (b := M.fix e 8) (by rw [List.length_replicate]) (M.len_sector _ _ _ hF.bytes) (by rw [List.take_replicate]; rfl) (by rw [List.drop_replicate]) (M.sector_take8 _ _ _) (M.sector_drop248 _ _ _ hF.bytes) (fun c => ?_) hx hy
        rw [← c, show M.unfix (List.replicate 8 (0 : UInt8)) = 0 by decide +kernel] at q
        have h0' : 0 < e := h0
        omega
      · refine M.torn_whole (a := M.fix s.ep 8) (b := M.fix e 8) (M.len_sector _ _ _ h4.bytes) (M.len_sector _ _ _ hF.bytes) (M.sector_take8 _ _ _) (M.sector_drop248 _ _ _ h4.bytes) (M.sector_take8 _ _ _) (M.sector_drop248 _ _ _ hF.bytes) (fun c => ?_) hx hy
        rw [← c, M.unfix_fix, Nat.mod_eq_of_lt (by omega)] at q
        omega
/-- A master on a disk whose power is on. -/
structure On (s : U.MS) (D : dSt) : Prop where
  at_ : s.at_ ≤ 4096
  a : Held (D.H (s.at_ : Int)) s.a
  b : Held (D.H ((s.at_ + 1 : Nat) : Int)) s.b
  wait : D.W = []
  left : D.left = -1
theorem On.ok {s : U.MS} {D : dSt} (h : On s D) : s.Ok := ⟨h.at_, h.a.ok, h.b.ok⟩
set_option maxRecDepth 100000 in
theorem On.open_ {s : U.MS} {D : dSt} (h : On s D) : msAt D s.at_ = s := by
  have e0 : secOf D s.at_ 0 = D.H (s.at_ : Int) := by unfold secOf; rw [h.wait, Nat.add_zero]; rfl
  have e1 : secOf D s.at_ 1 = D.H ((s.at_ + 1 : Nat) : Int) := by unfold secOf; rw [h.wait]; rfl
  rw [msAt, e0, e1, h.a.slot, h.b.slot]
set_option maxRecDepth 100000 in
theorem other_le (s : U.MS) : (if s.other = 0 then s.a else s.b).ep ≤ s.lat.ep := by
  unfold U.MS.other U.MS.lat U.MS.which
  by_cases h0 : s.a.ep = 0 ∧ s.b.ep = 0
  · simp only [if_pos h0]
    simp [h0.1]
  · by_cases h1 : s.a.ep < s.b.ep
    · simp only [if_neg h0, if_pos h1]
      simp; omega
    · simp only [if_neg h0, if_neg h1]
      simp; omega
set_option maxRecDepth 100000 in
theorem On.held {s : U.MS} {D : dSt} (h : On s D) : Held (D.H ((s.at_ + s.other : Nat) : Int)) (if s.other = 0 then s.a else s.b) := by
  rcases (show s.other = 0 ∨ s.other = 1 by have := other_lt s; omega) with e | e
  · rw [e, if_pos rfl, Nat.add_zero]; exact h.a
  · rw [e, if_neg (by decide)]; exact h.b
/-- What a Save leaves that is not cut. -/
def on2 (s : U.MS) (ns : List Nat) (k : Nat) (D : dSt) : dSt := (D.wrote (savW s ns k).1 (savW s ns k).2).synced
set_option maxRecDepth 100000 in
theorem put_lat {s : U.MS} {k : Nat} {ns : List Nat} (h0 : s.lat.ep < k) : (s.put s.other ⟨k, ns⟩).lat = ⟨k, ns⟩ ∧ (s.put s.other ⟨k, ns⟩).which = s.other ∧ (s.put s.other ⟨k, ns⟩).at_ = s.at_ := by
  revert h0
  unfold U.MS.put U.MS.other U.MS.lat U.MS.which
  by_cases h0 : s.a.ep = 0 ∧ s.b.ep = 0
  · simp only [if_pos h0]
    intro h
    simp
    refine ⟨?_, ?_⟩
    · rw [if_neg (by omega), if_neg (by omega)]
    · rw [if_neg (by omega), if_neg (by omega)]
  · by_cases h1 : s.a.ep < s.b.ep
    · simp only [if_neg h0, if_pos h1]
      intro h
      simp
      refine ⟨?_, ?_⟩
      · rw [if_neg (by omega), if_neg (by omega)]
      · rw [if_neg (by omega), if_neg (by omega)]
    · simp only [if_neg h0, if_neg h1]
      intro h
      simp
      refine ⟨?_, ?_⟩
      · rw [if_neg (by omega), if_pos (by omega)]
      · rw [if_neg (by omega), if_pos (by omega)]
set_option maxRecDepth 100000 in
theorem on_two {s : U.MS} {D : dSt} (h : On s D) {k : Nat} {ns : List Nat} (h0 : s.lat.ep < k) (h1 : k ≤ 1000000000) (hF : U.Fit ns) : On (s.put s.other ⟨k, ns⟩) (on2 s ns k D) := by
  have hH : ∀ i, (on2 s ns k D).H i = if (savW s ns k).1 = i then (savW s ns k).2 else D.H i := fun i => by
    show syncH D.H (D.W ++ [savW s ns k]) i = _
    rw [h.wait, syncH_has]
    rfl
  have hn : Held (savW s ns k).2 ⟨k, ns⟩ := .inr ⟨by show 0 < k; omega, h1, hF, rfl⟩
  have hl : (on2 s ns k D).left = -1 := by
    show less (less D.left) = -1
    rw [h.left]; rfl
  rcases (show s.other = 0 ∨ s.other = 1 by have := other_lt s; omega) with e | e
  · have e1 : s.put s.other ⟨k, ns⟩ = { s with a := ⟨k, ns⟩ } := by rw [e]; rfl
    have e2 : (savW s ns k).1 = (s.at_ : Int) := by unfold savW; rw [e]; rfl
    rw [e1]
    refine ⟨h.at_, ?_, ?_, rfl, hl⟩
    · show Held ((on2 s ns k D).H (s.at_ : Int)) ⟨k, ns⟩
      rw [hH, if_pos e2]; exact hn
    · show Held ((on2 s ns k D).H ((s.at_ + 1 : Nat) : Int)) s.b
      rw [hH, if_neg (by rw [e2]; omega)]; exact h.b
  · have e1 : s.put s.other ⟨k, ns⟩ = { s with b := ⟨k, ns⟩ } := by rw [e]; rfl
    have e2 : (savW s ns k).1 = ((s.at_ + 1 : Nat) : Int) := by unfold savW; rw [e]
    rw [e1]
    refine ⟨h.at_, ?_, ?_, rfl, hl⟩
    · show Held ((on2 s ns k D).H (s.at_ : Int)) s.a
      rw [hH, if_neg (by rw [e2]; omega)]; exact h.a
    · show Held ((on2 s ns k D).H ((s.at_ + 1 : Nat) : Int)) ⟨k, ns⟩
      rw [hH, if_pos e2]; exact hn
set_option maxRecDepth 100000 in
theorem on_save {s : U.MS} {D : dSt} (h : On s D) {k : Nat} {ns : List Nat} (h0 : s.lat.ep < k) (h1 : k ≤ 1000000000) (hF : U.Fit ns) : savE s ns (k : Int) D = 0 ∧ savM s ns (k : Int) D = s.put s.other ⟨k, ns⟩ ∧ savD s ns (k : Int) D = on2 s ns k D := by
  have hb : ¬ ((k : Int) ≤ s.lat.ep ∨ (1000000000 : Int) < (k : Int)) := by omega
  have hl : ¬ 20 < ns.length := by have := hF.len; omega
  have hr : savR s ns k D = (0, on2 s ns k D) := goW_all (.inl h.left)
  rw [savE, savM, savD, if_neg hb, if_neg hb, if_neg hb, if_neg hl, if_neg hl, if_neg hl, Int.toNat_natCast, hr]
  exact ⟨rfl, by rw [if_pos rfl], rfl⟩
set_option maxRecDepth 100000 in
theorem save_old {s : U.MS} {D : dSt} {k : Int} {ns : List Nat} (h : k ≤ s.lat.ep) : savE s ns k D = 2 ∧ savM s ns k D = s ∧ savD s ns k D = D := by
  rw [savE, savM, savD, if_pos (.inl h), if_pos (.inl h), if_pos (.inl h)]; exact ⟨rfl, rfl, rfl⟩
set_option maxRecDepth 100000 in
theorem save_long {s : U.MS} {D : dSt} {k : Nat} {ns : List Nat} (h0 : s.lat.ep < k) (h1 : k ≤ 1000000000) (h : 20 < ns.length) : savE s ns (k : Int) D = 3 ∧ savM s ns (k : Int) D = s ∧ savD s ns (k : Int) D = D := by
  have hb : ¬ ((k : Int) ≤ s.lat.ep ∨ (1000000000 : Int) < (k : Int)) := by omega
  rw [savE, savM, savD, if_neg hb, if_neg hb, if_neg hb, if_pos h, if_pos h, if_pos h]; exact ⟨rfl, rfl, rfl⟩
def ms0 : U.MS := ⟨1, ⟨0, []⟩, ⟨0, []⟩⟩
theorem on_new : On ms0 (dSt.new 3) := ⟨by show 1 ≤ 4096; decide, .inl ⟨rfl, rfl⟩, .inl ⟨rfl, rfl⟩, rfl, rfl⟩
end Go.Proofs.YtmmgfankbabfbaaDoor
