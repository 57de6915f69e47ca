/- Texts put together: FQ6b, FQ7, FQ8, FQ9, FWorks2, DSpoil, FR0. -/
import Derived.Test.YtjlennpoaefllaaGreatDoorQ31
import Derived.Test.YtjlennpoaefllaaGreatDoorQ19
import Derived.Test.YtjlennpoaefllaaGreatDoorQ20
import Derived.Test.YtjlennpoaefllaaGreatDoorQ22
import Derived.Test.YtjlennpoaefllaaGreatDoorQ27
import Derived.Test.YtjlennpoaefllaaGreatDoorQ16
/- The reference's call Get, of a page that is not held. -/
namespace Go.Proofs.YtjlennpoaefllaaGreatDoor
open Go.RowKit

set_option maxRecDepth 100000 in
theorem IsRO.has {w : World} {O : Nat → Prop} {r : Nat} {D : dSt} (h : IsRO w O r D) (i : Int) : (hasOf D.H D.W i).length = 256 := by
  obtain ⟨hv, wv, hd, _⟩ := h
  exact hasOf_len i hd.good D.W hd.goodW
set_option maxRecDepth 100000 in
set_option maxHeartbeats 4000000 in
theorem qget_new {w : World} {O OR : Nat → Prop} {q r : Nat} {s : F.Po} {lv : Value} {D : dSt} {n0 : Nat} (h : QAt w O q r s lv) (hO : ∀ k, O k → k < w.heap.size) (hr : IsRO w OR r D) (hk : DOk D n0) (hn0 : n0 ≤ 900) (hok : POk s D) (hg : F.Good s) (hl : s.L.length ≤ 9000) (no : Int) (hno : F.inPool s no = true) (ha : F.at? s.L no = none) (hall : ∀ f ∈ s.L, f.no ≠ no) (he : F.idx s.L no = -1) :
    Calls Tryz.prog 103 #[Ptr q, .int .i64 no] w (PQ11 w O q r (F.getS s D no) (.tuple #[Str (F.getB s D no), .int .i64 (F.getE s D no : Int)])) := by
  have c2 : w.cell? ⟨q, 2, none⟩ = some (.int .i64 s.ct) := cellOf h.box 2
  have h3 : 0 ≤ no ∧ no < s.ct := by simpa [F.inPool] using hno
  have d1 : decide (no < 0) = false := by simp; omega
  have d2 : decide (s.ct ≤ no) = false := by simp; omega
  have HF := hid (show Calls Tryz.prog 84 #[.pointer (some ⟨q, 0, none⟩), .int .i64 no] w (Tells (.int .i64 (-1)) w) by rw [← he]; exact qfind_any h no (by omega))
  have HOu := hid (fun z (hz : F.outI s = z) => show Calls Tryz.prog 96 #[.pointer (some ⟨q, 0, none⟩)] w (Adding (.int .i64 z) w) by rw [← hz]; exact qout_any h (by omega))
  have hE : F.getE s D no = F.rdE s D no := by unfold F.getE; rw [hno, ha]; rfl
  have hFr : F.getF s D no = ⟨no, F.rdB s D no, [], false, false⟩ := by unfold F.getF; rw [ha]
  have HB := hid (show F.getB s D no = if F.rdE s D no = 0 then F.rdB s D no else [] by unfold F.getB; rw [hE, hFr])
  have HS := hid (show F.getS s D no = if F.rdE s D no = 0 then F.held s no ⟨no, F.rdB s D no, [], false, false⟩ else s by unfold F.getS; rw [hE, hFr])
  rw [hE]
  have HSm := hid (fun w' (hA : Adds w w') v => PQ11.same (w := w) (w' := w') (show IsQ w O q r s from ⟨lv, h⟩) hA v)
  rcases F.out_is hg ha hall with ⟨e1, e2⟩ | ⟨j, e1, e2, e3, e4, e5⟩
  · have hz : F.rdE s D no = 33 := by unfold F.rdE; rw [e2]; rfl
    rw [HB.out, HS.out, hz]
    have HOu2 := hid (HOu.out _ e1)
    clear h hO hr hk hok hg hno ha hall he e1 e2 h3 hE hFr hz
    unfold Str Ptr at *
    go_enter Tryz.func103, Tryz.ntmps103
    go_wp2_with (first
      | (go_at_call 84; refine HF.out.mono ?_; rintro e _ ⟨rfl, hw⟩; rw [hw]; clear hw)
      | (go_at_call 96; refine HOu2.out.mono ?_; rintro e w2 ⟨rfl, hA2⟩; have HA2 := hid hA2; clear hA2))
    go_ret2
    exact HSm.out w2 HA2.out _
  · have HOu2 := hid (HOu.out _ e1)
    have hj2 : (j == -2) = false := by simpa using e2
    have hi : 0 ≤ s.fr + no ∧ s.fr + no < D.size := by have := hok.fr0; have := hok.fit; omega
    have hwi : IntKind.i64.wrap (s.fr + no) = s.fr + no := by rw [IntKind.wrap_i64]; have := hok.fr0; have := hok.fit; have := hok.size; omega
    have hwr : wrap64 (s.fr + no) = s.fr + no := by have := hok.fr0; have := hok.fit; have := hok.size; simp [wrap64]; omega
    have HBx := hid (fun w' (hA : Adds w w') => show w'.heap[q]? = some (QBox r s lv) from (h.adds hA).box)
    by_cases hon : D.left = 0
    · have hz : F.rdE s D no = 10 := by unfold F.rdE; rw [e4, hon]; rfl
      rw [HB.out, HS.out, hz]
      have HRd := hid (fun w' (hA : Adds w w') => show Calls Tryz.prog 133 #[.pointer (some ⟨r, 0, none⟩), .int .i64 (s.fr + no)] w' (Tells (.tuple #[.string ⟨#[]⟩, .int .i64 10]) w') from ro_read (hr.adds hA) hk hn0 (s.fr + no) hi [] 10 (by unfold rdS; rw [if_pos hon]) (by rw [if_pos hon]))
      clear h hO hr hk hok hg hno ha hall he e1 e2 e3 e4 e5 h3 hE hFr hz hi
      unfold Str Ptr at *
      go_enter Tryz.func103, Tryz.ntmps103
      go_upto_region 12 with (first
        | (go_at_call 84; refine HF.out.mono ?_; rintro e _ ⟨rfl, hw⟩; rw [hw]; clear hw)
        | (go_at_call 96; refine HOu2.out.mono ?_; rintro e w2 ⟨rfl, hA2⟩; have HA2 := hid hA2; clear hA2))
      have g0 : w2.cell? ⟨q, 0, none⟩ = some (.pointer (some ⟨r, 0, none⟩)) := cellOf (HBx.out w2 HA2.out) 0
      have g1 : w2.cell? ⟨q, 1, none⟩ = some (.int .i64 s.fr) := cellOf (HBx.out w2 HA2.out) 1
      go_quiet (first | (go_at_call 133; refine Calls.quiet_of_same (HRd.out _ (HA2.out.trans (adds_drewN _ _)))))
      go_wp2
      go_ret2
      exact HSm.out _ (HA2.out.trans (adds_drewN _ _)) _
    · obtain ⟨bs, hbs⟩ : ∃ bs, bs = hasOf D.H D.W (s.fr + no) := ⟨_, rfl⟩
      have hlb : bs.length = 256 := by rw [hbs]; exact hr.has _
      have hz : F.rdE s D no = M.openE bs no := by unfold F.rdE; rw [e4, if_neg hon, hbs]; rfl
      have hcs : F.rdB s D no = M.openP bs no := by unfold F.rdB; rw [hbs]
      rw [hz, hcs] at HB HS
      rw [hz, HB.out, HS.out]
      have HHeld := hid (e5 ⟨no, M.openP bs no, [], false, false⟩)
      have HRd := hid (fun w' (hA : Adds w w') => show Calls Tryz.prog 133 #[.pointer (some ⟨r, 0, none⟩), .int .i64 (s.fr + no)] w' (Tells (.tuple #[.string ⟨bs.toArray⟩, .int .i64 0]) w') from ro_read (hr.adds hA) hk hn0 (s.fr + no) hi bs 0 (by unfold rdS; rw [if_neg hon, hbs]) (by rw [if_neg hon]))
      have HOp := hid (fun (w' : World) (g c : Nat) (hc : 256 ≤ c) (hB : At w' (some ⟨g, 0, none⟩) bs) => ropen9_any (some ⟨g, 0, none⟩) bs 256 c no w' hlb hc hB)
      have HLz := hid (And.intro (@openP_len bs no) (@openP_nil bs no))
      have HQ := hid h
      have HOO := hid hO
      have HLb := hid hlb
      have HJ := hid e3
      have HLl := hid hl
      clear h hO hr hk hok hg hno ha hall he e1 e2 e3 e4 e5 h3 hE hFr hz hi hcs hbs hlb HB HS hon
      generalize M.openE bs no = z at *
      generalize M.openP bs no = cs at *
      obtain ⟨sG, hsG⟩ : ∃ sG, sG = if z = 0 then F.held s no ⟨no, cs, [], false, false⟩ else s := ⟨_, rfl⟩
      obtain ⟨bG, hbG⟩ : ∃ bG, bG = if z = 0 then cs else [] := ⟨_, rfl⟩
      rw [← hsG, ← hbG]
      have HsG := hid (And.intro hsG hbG)
      clear hsG hbG
      unfold Str Ptr at *
      go_enter Tryz.func103, Tryz.ntmps103
      go_upto_region 12 with (first
        | (go_at_call 84; refine HF.out.mono ?_; rintro e _ ⟨rfl, hw⟩; rw [hw]; clear hw)
        | (go_at_call 96; refine HOu2.out.mono ?_; rintro e w2 ⟨rfl, hA2⟩; have HA2 := hid hA2; clear hA2))
      have g0 : w2.cell? ⟨q, 0, none⟩ = some (.pointer (some ⟨r, 0, none⟩)) := cellOf (HBx.out w2 HA2.out) 0
      have g1 : w2.cell? ⟨q, 1, none⟩ = some (.int .i64 s.fr) := cellOf (HBx.out w2 HA2.out) 1
      go_cut [8, 9] (fun t8 t9 w' => t8 = .string ⟨bs.toArray⟩ ∧ t9 = .int .i64 0 ∧ Hid (Adds w w'))
      case first =>
        go_quiet (first | (go_at_call 133; refine Calls.quiet_of_same (HRd.out _ (HA2.out.trans (adds_drewN _ _)))))
        go_wp2
        go_meet
        case rel => exact ⟨rfl, rfl, HA2.out.trans (adds_drewN _ _)⟩
      case rest =>
        rename World => w3
        obtain ⟨rfl, rfl, HA3⟩ := hcut
        obtain ⟨sc, w4, hcv, hsc, hat4, hA4⟩ := str_256Q bs HLb.out w3
        have HOp4 := hid (HOp.out w4 w3.heap.size sc hsc hat4)
        have HA4 := hid (HA3.out.trans hA4)
        clear hsc hat4 hA4 g0 g1
        by_cases hz : z = 0
        · have hl6 : cs.length = 256 := HLz.out.1 hz
          have HCL := hid hl6
          subst hz
          clear hl6
          obtain ⟨f, hf⟩ : ∃ f : F.Fr, f = ⟨no, cs, [], false, false⟩ := ⟨_, rfl⟩
          have HFc := hid (show fc f = [.int .i64 no, .string ⟨cs.toArray⟩, .string ⟨#[]⟩, .bool false, .bool false] by rw [hf]; rfl)
          have HG := hid (show sG = { s with L := F.cutI s.L j ++ [f] } ∧ bG = cs by
            refine ⟨?_, by rw [HsG.out.2, if_pos rfl]⟩
            rw [HsG.out.1, if_pos rfl, HHeld.out, hf])
          clear hf
          have HDr := hid (fun w' (hA : Adds w w') => show Calls Tryz.prog 97 #[.pointer (some ⟨q, 0, none⟩), .int .i64 j] w' (PQ11 w' O q r { s with L := F.cutI s.L j } (.tuple #[])) from qdrop_any (HQ.out.adds hA) (by have := HLl.out; omega) j HJ.out)
          go_upto_region 18 with (first
            | (go_at_call 134; refine HOp4.out.mono ?_; rintro e w5 ⟨ra, rc, rfl, H5⟩; rw [HCL.out]))
          have HA5 := hid (HA4.out.trans H5.out.2.2.2)
          have HD5 := hid (HDr.out w5 HA5.out)
          go_upto_region 19 with (first | (go_at_call 97; refine HD5.out.mono ?_; rintro e w6a ⟨rfl, H6⟩))
          obtain ⟨O6, ⟨lv6, hq6⟩, hT6, hO6⟩ := H6.out
          have HQ6 := hid hq6
          have hra : ∀ b o, ra = some ⟨b, o, none⟩ → b < w5.heap.size ∧ w.heap.size ≤ b := fun b o e => by
            obtain ⟨b', o', e', hc⟩ := H5.out.1 0 (cs[0]'(by rw [HCL.out]; decide)) (by simp)
            rw [e] at e'
            cases e'
            have h1 := H5.out.2.2.1.2 b o e
            have h2 := HA4.out.size
            exact ⟨World.block_lt_of_cell? _ _ hc, by omega⟩
          have hnO6 : ∀ b o, ra = some ⟨b, o, none⟩ → ¬ O6 b := fun b o e c => by
            obtain ⟨h1, h2⟩ := hra b o e
            rcases hO6 b c with c | c
            · have := HOO.out b c; omega
            · omega
          have HAt6 := hid (show At w6a ra cs from H5.out.1.block (fun b o e hb => hT6.block b hb (fun c => by have := (hra b o e).2; have := HOO.out b c; omega)))
          have HnO := hid hnO6
          have HQs := hid (show Qs w O w6a O6 from (Qs.adds O HA5.out).trans ⟨hT6, hO6⟩)
          have HCv := hid (fun (w' : World) (h : At w' ra cs) => show (convert 43 9 (.slice ra 256 rc)).run Tryz.prog w' = .ok (.string ⟨cs.toArray⟩) w' by
            have q := conv_at w' ra cs rc h
            rw [HCL.out] at q
            exact q)
          have HS2 := hid (show (∀ w', Adds w6a w' → (fun w' : World => w'.heap[q]? = some (QBox r { s with L := F.cutI s.L j } lv6) ∧ At w' ra cs) w') ∧ (∀ w6 w7, Adds w6a w6 → w6.grownBy w7 lv6.ownBlock → (fun w' : World => w'.heap[q]? = some (QBox r { s with L := F.cutI s.L j } lv6) ∧ At w' ra cs) w7) from ⟨fun w' hA => ⟨(HQ6.out.adds hA).box, HAt6.out.adds hA⟩, fun w6 w7 hA hg => ⟨by
            have hT := (hA.mono (U := fun k => lv6.ownBlock = some k) (fun _ _ c => c.elim)).trans (grown_touch hg)
            exact hT.at' HQ6.out.box (fun c => HQ6.out.ne c rfl), by
            have hT := (hA.mono (U := fun k => lv6.ownBlock = some k) (fun _ _ c => c.elim)).trans (grown_touch hg)
            exact HAt6.out.block (fun b o e hb => hT.block b hb (fun c => HnO.out b o e (HQ6.out.ol b c)))⟩⟩)
          have HFin := hid (fun (w8 : World) (O8 : Nat → Prop) (h8 : IsQ w8 O8 q r { s with L := F.cutI s.L j ++ [f] }) (hs : Qs w6a O6 w8 O8) => show PQ11 w O q r { s with L := F.cutI s.L j ++ [f] } (.tuple #[.string ⟨cs.toArray⟩, .int .i64 0]) (.returned (.tuple #[.string ⟨cs.toArray⟩, .int .i64 0])) w8 from PQ11.of h8 (HQs.out.trans hs))
          have HLn6 := hid (show ({ s with L := F.cutI s.L j } : F.Po).L.length + 1 ≤ 100000 by show (F.cutI s.L j).length + 1 ≤ 100000; have := F.cut_len s.L j; have := HLl.out; omega)
          clear hq6 hT6 hO6 hnO6 hra
          refine E_begin (S := fun w' : World => w'.heap[q]? = some (QBox r { s with L := F.cutI s.L j } lv6) ∧ At w' ra cs) (X := 13) (by kernel_rfl) ?_
          have hS0 : (fun w' : World => w'.heap[q]? = some (QBox r { s with L := F.cutI s.L j } lv6) ∧ At w' ra cs) w6a.drew := ⟨HQ6.out.box, HAt6.out.adds (Touch.refl _ w6a).drew⟩
          refine E_put (i := 0) 82 (v := .pointer (some ⟨q, 0, none⟩)) rfl rfl (by kernel_rfl) (by kernel_rfl) (by kernel_rfl) (by kernel_rfl) (fun _ _ _ h => h) (Or.inl ⟨by rfl, fun w' hw' => ?_⟩) hS0 ?_
          · rfl
          simp only [Act.put, List.setIfInBounds_toArray, List.set_cons_zero, List.set_cons_succ]
          refine E_put (i := 1) 83 (v := .pointer (some ⟨q, 0, none⟩)) rfl rfl (by kernel_rfl) (by kernel_rfl) (by kernel_rfl) (by kernel_rfl) (fun _ _ _ h => h) (Or.inl ⟨by rfl, fun w' hw' => ?_⟩) hS0 ?_
          · rfl
          simp only [Act.put, List.setIfInBounds_toArray, List.set_cons_zero, List.set_cons_succ]
          refine E_put (i := 2) 84 (v := .pointer (some ⟨q, 0, none⟩)) rfl rfl (by kernel_rfl) (by kernel_rfl) (by kernel_rfl) (by kernel_rfl) (fun _ _ _ h => h) (Or.inl ⟨by rfl, fun w' hw' => ?_⟩) hS0 ?_
          · go_simp
          simp only [Act.put, List.setIfInBounds_toArray, List.set_cons_zero, List.set_cons_succ]
          refine E_put (i := 3) 85 (v := .pointer (some ⟨q, 4, none⟩)) rfl rfl (by kernel_rfl) (by kernel_rfl) (by kernel_rfl) (by kernel_rfl) (fun _ _ _ h => h) (Or.inl ⟨by rfl, fun w' hw' => ?_⟩) hS0 ?_
          · go_simp
          simp only [Act.put, List.setIfInBounds_toArray, List.set_cons_zero, List.set_cons_succ]
          refine E_put (i := 4) 86 (v := lv6) rfl rfl (by kernel_rfl) (by kernel_rfl) (by kernel_rfl) (by kernel_rfl) (fun _ _ _ h => h) (Or.inl ⟨by rfl, fun w' hw' => ?_⟩) hS0 ?_
          · (have c := cellOf hw'.1 4; clear hw'; go_simp)
          simp only [Act.put, List.setIfInBounds_toArray, List.set_cons_zero, List.set_cons_succ]
          refine E_put (i := 5) 87 (v := .int .i64 no) rfl rfl (by kernel_rfl) (by kernel_rfl) (by kernel_rfl) (by kernel_rfl) (fun _ _ _ h => h) (Or.inl ⟨by rfl, fun w' hw' => ?_⟩) hS0 ?_
          · rfl
          simp only [Act.put, List.setIfInBounds_toArray, List.set_cons_zero, List.set_cons_succ]
          refine E_put (i := 6) 88 (v := .slice ra 256 rc) rfl rfl (by kernel_rfl) (by kernel_rfl) (by kernel_rfl) (by kernel_rfl) (fun _ _ _ h => h) (Or.inl ⟨by rfl, fun w' hw' => ?_⟩) hS0 ?_
          · rfl
          simp only [Act.put, List.setIfInBounds_toArray, List.set_cons_zero, List.set_cons_succ]
          refine E_put (i := 7) 89 (v := .string ⟨cs.toArray⟩) rfl rfl (by kernel_rfl) (by kernel_rfl) (by kernel_rfl) (by kernel_rfl) (fun _ _ _ h => h) (Or.inl ⟨by rfl, fun w' hw' => ?_⟩) hS0 ?_
          · (have c := HCv.out w' hw'.2; clear hw'; go_simp)
          simp only [Act.put, List.setIfInBounds_toArray, List.set_cons_zero, List.set_cons_succ]
          refine E_put (i := 8) 90 (v := .agg (fc f).toArray) rfl rfl (by kernel_rfl) (by kernel_rfl) (by kernel_rfl) (by kernel_rfl) (fun _ _ _ h => h) (Or.inl ⟨by rfl, fun w' hw' => ?_⟩) hS0 ?_
          · (clear hw'; go_simp; exact HFc.out.symm)
          simp only [Act.put, List.setIfInBounds_toArray, List.set_cons_zero, List.set_cons_succ]
          obtain ⟨w6, hw6⟩ : ∃ w6, w6 = w6a.drew.alloc (.cells (fc f).toArray 136) := ⟨_, rfl⟩
          have hA6 : Adds w6a w6 := by rw [hw6]; exact (Touch.refl _ w6a).drew.alloc _
          have hN6 : w6.heap[w6a.heap.size]? = some (.cells (fc f).toArray 136 (0, 0)) := by rw [hw6]; exact heap_alloc_new w6a.drew _
          have HZ6 := hid (show w6.heap.size = w6a.heap.size + 1 by rw [hw6]; simp)
          have hS6 := HS2.out.1 w6 hA6
          refine E_do (i := 9) (some 91) (by kernel_rfl) rfl rfl rfl (fun K hK => ?_)
          refine wp_buildSlice 90 1 0 (.tmp 90) rfl rfl (build_fr f _) ?_
          rw [← hw6]
          refine hK _ _ (fun _ => hS6) ?_
          clear hK K
          simp only [Act.put, List.setIfInBounds_toArray, List.set_cons_zero, List.set_cons_succ]
          have HA6 := hid hA6
          have HN6 := hid hN6
          clear hw6 hA6 hN6 hS0
          refine E_do (i := 10) (some 92) (by kernel_rfl) rfl rfl rfl (fun K hK => ?_)
          refine wp_append_fr _ _ rfl 0 lv6 _ _ rfl (HQ6.out.adds HA6.out).row ⟨w6a.heap.size, 0, none⟩ 1 1 [f] rfl rfl (box_cells HN6.out) HLn6.out (Nat.zero_le _) ?_
          intro v7 w7 hr7 hg7 ha7
          obtain ⟨hb7, hp7⟩ := q_pushed HQ6.out HA6.out hr7 hg7 ha7
          have hS7 := HS2.out.2 w6 w7 HA6.out hg7
          obtain ⟨va7, vc7, ev7⟩ := row_form hr7
          subst ev7
          refine hK _ _ (fun _ => hS7) ?_
          clear hK K
          simp only [Act.put, List.setIfInBounds_toArray, List.set_cons_zero, List.set_cons_succ]
          have HP7 := hid hp7
          have HG7 := hid hg7
          have c47 := cellOf hb7 4
          have f47 := frozen_of_row w7 q 4 _ 92 hb7
          clear hr7 hg7 ha7 hp7 hb7
          refine E_do (i := 11) (some 93) (by kernel_rfl) rfl rfl rfl (fun K hK => ?_)
          go_simp
          refine hK (.pointer (some ⟨q, 0, none⟩)) _ (fun _ => hS7) ?_
          clear hK K
          simp only [Act.put, List.setIfInBounds_toArray, List.set_cons_zero, List.set_cons_succ]
          refine E_do (i := 12) (some 94) (by kernel_rfl) rfl rfl rfl (fun K hK => ?_)
          go_simp
          refine hK (.pointer (some ⟨q, 4, none⟩)) _ (fun _ => hS7) ?_
          clear hK K
          simp only [Act.put, List.setIfInBounds_toArray, List.set_cons_zero, List.set_cons_succ]
          refine E_do (i := 13) none (by kernel_rfl) rfl rfl rfl (fun K hK => ?_)
          go_simp
          refine hK undef _ (fun h => absurd rfl h) ?_
          clear hK K hS7
          simp only [Act.put]
          refine E_done (by kernel_rfl) ?_ _
          clear c47 f47
          obtain ⟨w8, hw8⟩ : ∃ w8, w7.setCell ⟨q, 4, none⟩ (.slice va7 (({ s with L := F.cutI s.L j } : F.Po).L.length + 1) vc7) = w8 := ⟨_, rfl⟩
          rw [hw8] at HP7 ⊢
          have hcv8 : (convert 43 9 (.slice ra 256 rc)).run Tryz.prog w8 = .ok (.string ⟨cs.toArray⟩) w8 := by
            obtain ⟨O8, _, hs8⟩ := HP7.out
            exact HCv.out w8 (HAt6.out.block (fun b o e hb => hs8.1.block b hb (HnO.out b o e)))
          clear hw8
          go_wp2_with fail
          go_ret2
          obtain ⟨O8, h8, hs8⟩ := HP7.out
          rw [HG.out.1, HG.out.2]
          exact HFin.out w8 O8 h8 hs8
        · have hz' : ((z : Int) != 0) = true := by simp; omega
          have HG := hid (show sG = s ∧ bG = [] by rw [HsG.out.1, HsG.out.2, if_neg hz, if_neg hz]; exact ⟨rfl, rfl⟩)
          clear hz
          go_wp2_with (first
            | (go_at_call 134; refine HOp4.out.mono ?_; rintro e w5 ⟨ra, rc, rfl, H5⟩))
          go_ret2
          rw [HG.out.1, HG.out.2]
          exact HSm.out w5 (HA4.out.trans H5.out.2.2.2) _
set_option maxRecDepth 100000 in
/-- Get, by the pool's and the disk's states. -/
theorem qget_any {w : World} {O OR : Nat → Prop} {q r : Nat} {s : F.Po} {D : dSt} {n0 : Nat} (h : IsQ w O q r s) (hO : ∀ k, O k → k < w.heap.size) (hr : IsRO w OR r D) (hk : DOk D n0) (hn0 : n0 ≤ 900) (hok : POk s D) (hg : F.Good s) (no : Int) :
    Calls Tryz.prog 103 #[Ptr q, .int .i64 no] w (PQ11 w O q r (F.getS s D no) (.tuple #[Str (F.getB s D no), .int .i64 (F.getE s D no : Int)])) := by
  obtain ⟨lv, h⟩ := h
  have hl : s.L.length ≤ 9000 := by have := hg.len; have := hok.mo2; omega
  cases hno : F.inPool s no with
  | false =>
    have e1 : F.getE s D no = 2 := by unfold F.getE; rw [hno]; rfl
    have e2 : F.getS s D no = s := by unfold F.getS; rw [e1]; rfl
    have e3 : F.getB s D no = [] := by unfold F.getB; rw [e1]; rfl
    rw [e1, e2, e3]
    exact qget_bad h no hno
  | true =>
    rcases F.idx_is s.L no with ⟨i, hi, e, hn, ha⟩ | ⟨e, ha, hall⟩
    · have e1 : F.getE s D no = 0 := by unfold F.getE; rw [hno, ha]; rfl
      have e4 : F.getF s D no = s.L[i] := by unfold F.getF; rw [ha]
      have e2 : F.getS s D no = { s with L := F.cutI s.L (i : Int) ++ [s.L[i]] } := by unfold F.getS; rw [e1, e4]; exact F.held_idx hg hi hn ha _
      have e3 : F.getB s D no = (s.L[i]).now := by unfold F.getB; rw [e1, e4]; rfl
      rw [e1, e2, e3]
      exact qget_held h hO hl no hno i hi e
    · exact qget_new h hO hr hk hn0 hok hg hl no hno ha hall e
end Go.Proofs.YtjlennpoaefllaaGreatDoor

/- The reference's call Put. -/
namespace Go.Proofs.YtjlennpoaefllaaGreatDoor
open Go.RowKit

theorem list_storeFr {w : World} {ops : Array Oper} {rest : List Oper} {o : Oper} {act : Act} {Q : Exit → Act → World → Prop} (hgd : o.guard = none) (x y : Operand) (ho : o.op = .store 136 x y) (b : Nat) (f : F.Fr) (old : Array Value) (hx : act.eval x = .pointer (some ⟨b, 0, none⟩)) (hy : act.eval y = .agg (fc f).toArray) (hb : w.heap[b]? = some (.cells old 136 (0, 0))) (hs : old.size = 5)
    (h : wpList Tryz.prog ops Q rest (act.put o.dst undef) (w.setRow b (fc f).toArray)) : wpList Tryz.prog ops Q (o :: rest) act w :=
  wpList_plain hgd fun _ hK => wp_store_row x y 136 ho b (fc f).toArray old 136 hx hy hb (infoFr f) (by rw [hs]; rfl) (all_oneCell_toArray (one_fc f)) (hK _ _ h)
/-- The frame that a page had, or a new one. -/
def F.had (s : F.Po) (no : Int) : F.Fr := match F.at? s.L no with
  | some f => f
  | none => ⟨no, [], [], false, false⟩
/-- What it was is kept. -/
def F.kp (f : F.Fr) : F.Fr := if f.dirty && !f.fresh then { f with was := f.now } else f
set_option maxRecDepth 100000 in
theorem had_put {s : F.Po} (hn : F.Nil s) (no : Int) (bs : List UInt8) : ({ F.kp (F.had s no) with now := F.nw bs, fresh := true } : F.Fr) = ⟨no, F.nw bs, F.wasB s no, true, F.wasD s no⟩ := by
  unfold F.had F.wasB F.wasD
  cases ha : F.at? s.L no with
  | none => rfl
  | some f =>
    have hm := F.at_mem ha
    show ({ F.kp f with now := F.nw bs, fresh := true } : F.Fr) = ⟨no, F.nw bs, if f.fresh then f.was else if f.dirty then f.now else [], true, f.dirty⟩
    have hw := hn f hm.1
    rw [← hm.2]
    unfold F.kp
    cases h1 : f.fresh <;> cases h2 : f.dirty
    · rw [h1, h2] at hw
      simp [h2, hw]
    · simp
    · simp [h2]
    · simp [h2]
set_option maxRecDepth 100000 in
set_option maxHeartbeats 2000000 in
theorem qput_bad {w : World} {O : Nat → Prop} {q r : Nat} {s : F.Po} {lv : Value} (h : QAt w O q r s lv) (no : Int) (hno : F.inPool s no = false) (a : Option Addr) (n cap : Nat) : Calls Tryz.prog 54 #[Ptr q, .int .i64 no, .slice a n cap] w (PQ11 w O q r s (.int .i64 2)) := by
  have c2 : w.cell? ⟨q, 2, none⟩ = some (.int .i64 s.ct) := cellOf h.box 2
  have HQ := hid (PQ11.same (show IsQ w O q r s from ⟨lv, h⟩) (Touch.refl _ w) (.int .i64 2))
  clear h
  have h3 : no < 0 ∨ s.ct ≤ no := by
    unfold F.inPool at hno
    simp at hno
    omega
  clear hno
  unfold Ptr at *
  by_cases h1 : no < 0
  · have d1 : decide (no < 0) = true := by simpa using h1
    go_enter Tryz.func54, Tryz.ntmps54
    go_wp2_with fail
    go_ret
    exact HQ.out
  · have d1 : decide (no < 0) = false := by simpa using h1
    have d2 : decide (s.ct ≤ no) = true := by simp; omega
    go_enter Tryz.func54, Tryz.ntmps54
    go_wp2_with fail
    go_ret
    exact HQ.out
set_option maxRecDepth 100000 in
set_option maxHeartbeats 2000000 in
theorem qput_none {w : World} {O : Nat → Prop} {q r : Nat} {s : F.Po} {lv : Value} (h : QAt w O q r s lv) (no : Int) (hno : F.inPool s no = true) (a : Option Addr) (bs : List UInt8) (n cap : Nat) (hR : M.readP bs = none) (hn : bs.length = n) (hc : n ≤ cap) (hA : At w a bs) : Calls Tryz.prog 54 #[Ptr q, .int .i64 no, .slice a n cap] w (PQ11 w O q r s (.int .i64 22)) := by
  have c2 : w.cell? ⟨q, 2, none⟩ = some (.int .i64 s.ct) := cellOf h.box 2
  have h3 : 0 ≤ no ∧ no < s.ct := by simpa [F.inPool] using hno
  have d1 : decide (no < 0) = false := by simp; omega
  have d2 : decide (s.ct ≤ no) = false := by simp; omega
  have HP := hid (rparse9_none hR a n cap w hn hc hA)
  have HQ := hid (fun w' (hA : Adds w w') => PQ11.same (show IsQ w O q r s from ⟨lv, h⟩) hA (.int .i64 22))
  clear h hno h3 hR hn hc hA
  unfold Ptr at *
  go_enter Tryz.func54, Tryz.ntmps54
  go_wp2_with (first | (go_at_call 95; refine HP.out.mono ?_; rintro e w1 ⟨va, vc, rfl, hA1⟩; have HA1 := hid hA1; clear hA1))
  go_ret
  exact HQ.out _ (HA1.out.alloc _)
set_option maxRecDepth 100000 in
set_option maxHeartbeats 2000000 in
theorem qput_stale {w : World} {O : Nat → Prop} {q r : Nat} {s : F.Po} {lv : Value} (h : QAt w O q r s lv) (no : Int) (hno : F.inPool s no = true) (a : Option Addr) (bs : List UInt8) (n cap : Nat) (p : M.Pg) (hR : M.readP bs = some p) (hp : (p.no : Int) ≠ no) (hn : bs.length = n) (hc : n ≤ cap) (hA : At w a bs) : Calls Tryz.prog 54 #[Ptr q, .int .i64 no, .slice a n cap] w (PQ11 w O q r s (.int .i64 23)) := by
  have c2 : w.cell? ⟨q, 2, none⟩ = some (.int .i64 s.ct) := cellOf h.box 2
  have h3 : 0 ≤ no ∧ no < s.ct := by simpa [F.inPool] using hno
  have d1 : decide (no < 0) = false := by simp; omega
  have d2 : decide (s.ct ≤ no) = false := by simp; omega
  have HP := hid (rparse9_some hR a n cap w hn hc hA)
  have hcn := (M.read_ok hR).1.count.1
  obtain ⟨N, hN⟩ : ∃ N, N = p.cells.length := ⟨_, rfl⟩
  rw [← hN] at HP hcn
  have hne : ((p.no : Int) != no) = true := by simpa using hp
  have HQ := hid (fun w' (hA : Adds w w') => PQ11.same (show IsQ w O q r s from ⟨lv, h⟩) hA (.int .i64 23))
  clear h hno h3 hR hn hc hA hN hp
  unfold Ptr at *
  go_enter Tryz.func54, Tryz.ntmps54
  go_wp2_with (first | (go_at_call 95; refine HP.out.mono ?_; rintro e w1 ⟨va, vc, hs, rfl, H1⟩))
  go_ret
  exact HQ.out _ (H1.out.2.2.1.alloc _)
set_option maxRecDepth 100000 in
set_option maxHeartbeats 2000000 in
theorem qput_busy {w : World} {O : Nat → Prop} {q r : Nat} {s : F.Po} {lv : Value} (h : QAt w O q r s lv) (hl : s.L.length ≤ 9000) (no : Int) (hno : F.inPool s no = true) (a : Option Addr) (bs : List UInt8) (n cap : Nat) (p : M.Pg) (hR : M.readP bs = some p) (hp : (p.no : Int) = no) (hn : bs.length = n) (hc : n ≤ cap) (hA : At w a bs) (he : F.idx s.L no = -1) (ho : F.outI s = -2) : Calls Tryz.prog 54 #[Ptr q, .int .i64 no, .slice a n cap] w (PQ11 w O q r s (.int .i64 33)) := by
  have c2 : w.cell? ⟨q, 2, none⟩ = some (.int .i64 s.ct) := cellOf h.box 2
  have h3 : 0 ≤ no ∧ no < s.ct := by simpa [F.inPool] using hno
  have d1 : decide (no < 0) = false := by simp; omega
  have d2 : decide (s.ct ≤ no) = false := by simp; omega
  have HP := hid (rparse9_some hR a n cap w hn hc hA)
  have hcn := (M.read_ok hR).1.count.1
  obtain ⟨N, hN⟩ : ∃ N, N = p.cells.length := ⟨_, rfl⟩
  rw [← hN] at HP hcn
  have hne : ((p.no : Int) != no) = false := by simpa using hp
  have HF := hid (fun w' (hA : Adds w w') => show Calls Tryz.prog 84 #[.pointer (some ⟨q, 0, none⟩), .int .i64 no] w' (Tells (.int .i64 (-1)) w') by rw [← he]; exact qfind_any (h.adds hA) no (by omega))
  have HOu := hid (fun w' (hA : Adds w w') => show Calls Tryz.prog 96 #[.pointer (some ⟨q, 0, none⟩)] w' (Adding (.int .i64 (-2)) w') by rw [← ho]; exact qout_any (h.adds hA) (by omega))
  have HQ := hid (fun w' (hA : Adds w w') => PQ11.same (show IsQ w O q r s from ⟨lv, h⟩) hA (.int .i64 33))
  clear h hno h3 hR hn hc hA hN he ho
  unfold Ptr at *
  go_enter Tryz.func54, Tryz.ntmps54
  go_upto_region 9 with (first | (go_at_call 95; refine HP.out.mono ?_; rintro e w1 ⟨va, vc, hs, rfl, H1⟩))
  have HA3 := hid (show Adds w ((w1.alloc (.cells #[.int .i64 no, .int .u8 (p.kind.toNat : Int), .slice va N vc] 104)).alloc (.cells #[.int .i64 no, .string ⟨#[]⟩, .string ⟨#[]⟩, .bool false, .bool false] 136)) from (H1.out.2.2.1.alloc _).alloc _)
  generalize (w1.alloc (.cells #[.int .i64 no, .int .u8 (p.kind.toNat : Int), .slice va N vc] 104)).alloc (.cells #[.int .i64 no, .string ⟨#[]⟩, .string ⟨#[]⟩, .bool false, .bool false] 136) = w3 at HA3 ⊢
  go_wp2_with (first
    | (go_at_call 84; refine (HF.out w3 HA3.out).mono ?_; rintro e _ ⟨rfl, hw⟩; rw [hw]; clear hw)
    | (go_at_call 96; refine (HOu.out w3 HA3.out).mono ?_; rintro e w4 ⟨rfl, hA4⟩; have HA4 := hid (HA3.out.trans hA4); clear hA4))
  go_ret
  exact HQ.out _ HA4.out
set_option maxRecDepth 100000 in
set_option maxHeartbeats 4000000 in
theorem qput_ok {w : World} {O : Nat → Prop} {q r : Nat} {s : F.Po} {lv : Value} (h : QAt w O q r s lv) (hO : ∀ k, O k → k < w.heap.size) (hl : s.L.length ≤ 9000) (no : Int) (hno : F.inPool s no = true) (a : Option Addr) (bs : List UInt8) (n cap : Nat) (p : M.Pg) (hR : M.readP bs = some p) (hp : (p.no : Int) = no) (hn : bs.length = n) (hc : n ≤ cap) (hA : At w a bs)
    (ix j : Int) (f0 : F.Fr) (hix : F.idx s.L no = ix) (hjl : j < (s.L.length : Int)) (hC : (∃ i : Nat, ∃ hi : i < s.L.length, ix = (i : Int) ∧ j = (i : Int) ∧ f0 = s.L[i]) ∨ (ix = -1 ∧ F.outI s = j ∧ j ≠ -2 ∧ f0 = ⟨no, [], [], false, false⟩)) (f2 : F.Fr) (hf2 : f2 = { F.kp f0 with now := F.nw bs, fresh := true }) :
    Calls Tryz.prog 54 #[Ptr q, .int .i64 no, .slice a n cap] w (PQ11 w O q r { s with L := F.cutI s.L j ++ [f2] } (.int .i64 0)) := by
  have c2 : w.cell? ⟨q, 2, none⟩ = some (.int .i64 s.ct) := cellOf h.box 2
  have h3 : 0 ≤ no ∧ no < s.ct := by simpa [F.inPool] using hno
  have d1 : decide (no < 0) = false := by simp; omega
  have d2 : decide (s.ct ≤ no) = false := by simp; omega
  have HP := hid (rparse9_some hR a n cap w hn hc hA)
  have hcn := (M.read_ok hR).1.count.1
  have hno31 := (M.read_ok hR).1.no
  have HNo := hid (And.intro hno31 (M.read_ok hR).1.room)
  have HNw := hid (show F.nw bs = M.pbytes p by unfold F.nw; rw [hR])
  have HLb := hid (F.nw_len hR)
  obtain ⟨N, hN⟩ : ∃ N, N = p.cells.length := ⟨_, rfl⟩
  rw [← hN] at HP hcn
  have hne : ((p.no : Int) != no) = false := by simpa using hp
  have HF := hid (fun w' (hA : Adds w w') => show Calls Tryz.prog 84 #[.pointer (some ⟨q, 0, none⟩), .int .i64 no] w' (Tells (.int .i64 ix) w') by rw [← hix]; exact qfind_any (h.adds hA) no (by omega))
  have HOu := hid (fun w' (hA : Adds w w') (ho : F.outI s = j) => show Calls Tryz.prog 96 #[.pointer (some ⟨q, 0, none⟩)] w' (Adding (.int .i64 j) w') by rw [← ho]; exact qout_any (h.adds hA) (by omega))
  have HDr := hid (fun w' (hA : Adds w w') => show Calls Tryz.prog 97 #[.pointer (some ⟨q, 0, none⟩), .int .i64 j] w' (PQ11 w' O q r { s with L := F.cutI s.L j } (.tuple #[])) from qdrop_any (h.adds hA) (by omega) j hjl)
  have HQ := hid h
  have HOO := hid hO
  have HC := hid hC
  have HLl := hid hl
  have HF2 := hid hf2
  clear h hno h3 hR hn hc hA hix hC hO hl hjl hf2 hno31 hp hN
  unfold Ptr at *
  go_enter Tryz.func54, Tryz.ntmps54
  go_upto_region 9 with (first | (go_at_call 95; refine HP.out.mono ?_; rintro e w1 ⟨va, vc, hs, rfl, H1⟩))
  obtain ⟨w3, hw3⟩ : ∃ w3, w3 = (w1.alloc (.cells #[.int .i64 (p.no : Int), .int .u8 (p.kind.toNat : Int), .slice va N vc] 104)).alloc (.cells #[.int .i64 no, .string ⟨#[]⟩, .string ⟨#[]⟩, .bool false, .bool false] 136) := ⟨_, rfl⟩
  obtain ⟨b7, hb7⟩ : ∃ b7, b7 = w1.heap.size := ⟨_, rfl⟩
  obtain ⟨b9, hb9⟩ : ∃ b9, b9 = w1.heap.size + 1 := ⟨_, rfl⟩
  have HA3 := hid (show Adds w w3 by rw [hw3]; exact (H1.out.2.2.1.alloc _).alloc _)
  have HB7 := hid (show w3.heap[b7]? = some (.cells #[.int .i64 (p.no : Int), .int .u8 (p.kind.toNat : Int), .slice va N vc] 104 (0, 0)) by rw [hw3, hb7]; exact heap_alloc2_old w1 _ _)
  have HB9 := hid (show w3.heap[b9]? = some (.cells #[.int .i64 no, .string ⟨#[]⟩, .string ⟨#[]⟩, .bool false, .bool false] 136 (0, 0)) by rw [hw3, hb9]; exact heap_alloc2_new w1 _ _)
  have HG1 := hid (show GQ w1 (fun k => w.heap.size ≤ k ∧ k < w1.heap.size) ⟨va, vc, hs⟩ from H1.out.2.1.mono (fun k hk c => ⟨c, hk⟩))
  have HZ1 := hid (And.intro (And.intro hb7 hb9) H1.out.2.2.1.size)
  have HA13 := hid (show Adds w1 w3 by rw [hw3]; exact ((Touch.refl _ w1).alloc _).alloc _)
  have HHs := hid (And.intro H1.out.1 H1.out.2.2.2)
  rw [← hw3, ← hb9, ← hb7]
  clear hw3 hb7 hb9
  go_upto_if 38 with (first
    | (go_at_call 84; refine (HF.out w3 HA3.out).mono ?_; rintro e _ ⟨rfl, hw⟩; rw [hw]; clear hw))
  go_cut [10] from 39 to 77 (fun t10 w' => t10 = .int .i64 j ∧ Hid (w'.heap[b9]? = some (.cells (fc f0).toArray 136 (0, 0)) ∧ Touch (fun k => k = b9) w3 w'))
  case first =>
    rcases HC.out with ⟨i, hi, rfl, rfl, hf0⟩ | ⟨rfl, ho, hj, hf0⟩
    · have hi0 : decide ((i : Int) < 0) = false := by simp
      have hq3 := HQ.out.adds HA3.out
      obtain ⟨ao, ca, elv, hcap, hat⟩ := hq3.at'
      obtain ⟨g, ea, hob, hcc, hfz⟩ := hat (by omega)
      subst ea
      have hrr : Hid (w3.rangeAt g (i * 5) (fc f0)) := fun j v hv => by
        have hj : j < 5 := (List.getElem?_eq_some_iff.1 hv).1
        rw [hcc i hi j hj, ← hf0]
        exact hv
      obtain ⟨sl, hsl⟩ : ∃ sl, sl = s.L.length := ⟨_, rfl⟩
      have d4 : w3.cell? ⟨q, 4, none⟩ = some (.slice (some ⟨g, 0, none⟩) sl ca) := by have c := cellOf hq3.box 4; rw [elv] at c; rw [hsl]; exact c
      have hil : i < sl := by rw [hsl]; exact hi
      have hll : sl ≤ 9000 := by rw [hsl]; exact HLl.out
      have hi53 := hid (infoFr f0)
      clear hq3 hat hcc hfz hob elv hcap hsl hf0
      go_wp2_with (first
        | (refine wpList_load_mid rfl 136 _ rfl g (i * 5) rfl (fc f0) _ hrr.out Tryz.underlying136 rfl hi53.out ?_)
        | (refine list_storeFr rfl (.tmp 9) (.tmp 49) rfl b9 f0 _ rfl rfl HB9.out rfl ?_))
      go_meet
      case rel => exact ⟨rfl, setRow_heap w3 b9 _ _ 136 (0, 0) HB9.out, (Touch.refl (fun k => k = b9) w3).setRow (fun _ => rfl) _⟩
    · have hi0 : decide ((-1 : Int) < 0) = true := by decide
      have hj2 : (j == -2) = false := by simpa using hj
      have HO2 := hid (HOu.out w3 HA3.out ho)
      go_wp2_with (first
        | (go_at_call 96; refine HO2.out.mono ?_; rintro e w4 ⟨rfl, hA4⟩; have HA4 := hid hA4; clear hA4))
      go_meet
      case rel => exact ⟨rfl, by rw [hf0]; exact HA4.out.at' HB9.out id, HA4.out.mono (fun _ _ c => c.elim)⟩
  case rest =>
    rename World => w4
    obtain ⟨rfl, H4⟩ := hcut
    have HA4 := hid (show Adds w w4 from HA3.out.then H4.out.2 (fun k hk e => by have := HZ1.out; omega))
    have h79 : b7 ≠ b9 := by have := HZ1.out.1; omega
    have HB74 := hid (H4.out.2.at' HB7.out h79)
    have HG4 := hid (show GQ w4 (fun k => w.heap.size ≤ k ∧ k < w1.heap.size) ⟨va, vc, hs⟩ from (HG1.out.adds HA13.out).touch H4.out.2 (fun k hk e => by have := HZ1.out; omega))
    have HD4 := hid (HDr.out w4 HA4.out)
    have HB94 := hid H4.out.1
    have HZ4 := hid (show b9 < w4.heap.size from (Array.getElem?_eq_some_iff.1 H4.out.1).1)
    clear h79
    go_upto_region 16 with (first | (go_at_call 97; refine HD4.out.mono ?_; rintro e w6a ⟨rfl, H6⟩))
    obtain ⟨O6, ⟨lv6, hq6⟩, hT6, hO6⟩ := H6.out
    have HQ6 := hid hq6
    have hnO : ∀ k, w.heap.size ≤ k → k < w4.heap.size → ¬ O6 k := fun k h1 h2 c => by
      rcases hO6 k c with c | c
      · have := HOO.out k c; omega
      · omega
    have hnO0 : ∀ k, w.heap.size ≤ k → ¬ O k := fun k h1 c => by have := HOO.out k c; omega
    have HnO := hid hnO
    have hz9 : w.heap.size ≤ b9 ∧ w.heap.size ≤ b7 ∧ b7 < w4.heap.size := by have := HZ1.out; have := HZ4.out; omega
    have HZ9 := hid hz9
    have HB76 := hid (hT6.at' HB74.out (hnO0 b7 hz9.2.1))
    have HB96 := hid (hT6.at' HB94.out (hnO0 b9 hz9.1))
    have HG6 := hid (show GQ w6a (fun k => w.heap.size ≤ k ∧ k < w1.heap.size) ⟨va, vc, hs⟩ from HG4.out.touch hT6 (fun k hk => hnO0 k hk.1))
    have HQs := hid (show Qs w O w6a O6 from (Qs.adds O HA4.out).trans ⟨hT6, hO6⟩)
    clear hq6 hT6 hO6 hnO hnO0 hz9
    have c4 : w6a.cell? ⟨b9, 4, none⟩ = some (.bool f0.dirty) := cellOf HB96.out 4
    have c3 : w6a.cell? ⟨b9, 3, none⟩ = some (.bool f0.fresh) := cellOf HB96.out 3
    have c22 : w6a.cell? ⟨b9, 2, none⟩ = some (.string ⟨f0.was.toArray⟩) := cellOf HB96.out 2
    have c1 : w6a.cell? ⟨b9, 1, none⟩ = some (.string ⟨f0.now.toArray⟩) := cellOf HB96.out 1
    have fz2 := frozen_of_row w6a b9 2 _ 136 HB96.out
    obtain ⟨f1, hf1⟩ : ∃ f1, f1 = F.kp f0 := ⟨_, rfl⟩
    rw [← hf1] at HF2
    have HF1 := hid hf1
    clear hf1
    go_cut [59] from 53 to 77 (fun t59 w' => t59 = .bool (f0.dirty && !f0.fresh) ∧ w' = w6a)
    case first =>
      cases hdi : f0.dirty with
      | false =>
        rw [hdi] at c4
        go_wp2_with fail
        go_meet
        case rel => exact ⟨by rw [hdi]; rfl, rfl⟩
      | true =>
        rw [hdi] at c4
        cases hfr : f0.fresh with
        | true =>
          rw [hfr] at c3
          go_wp2_with fail
          go_meet
          case rel => exact ⟨by rw [hdi, hfr]; rfl, rfl⟩
        | false =>
          rw [hfr] at c3
          go_wp2_with fail
          go_meet
          case rel => exact ⟨by rw [hdi, hfr]; rfl, rfl⟩
    case rest =>
    rename World => w6b
    obtain ⟨rfl, hw6b⟩ := hcut
    rw [hw6b]
    clear hw6b c3 c4
    go_upto_if 59 with fail
    go_cut [59] from 53 to 77 (fun _ w' => Hid (w'.heap[b9]? = some (.cells (fc f1).toArray 136 (0, 0)) ∧ Touch (fun k => k = b9) w6a w'))
    case first =>
      cases hb : (f0.dirty && !f0.fresh) with
      | false =>
        have e : f1 = f0 := by rw [HF1.out]; unfold F.kp; rw [hb]; rfl
        subst e
        go_wp2_with fail
        go_meet
        case rel => exact ⟨HB96.out, Touch.refl _ _⟩
      | true =>
        have HFc := hid (show fc f1 = [.int .i64 f0.no, Str f0.now, Str f0.now, .bool f0.fresh, .bool f0.dirty] by rw [HF1.out]; unfold F.kp; rw [hb]; rfl)
        go_wp2_with fail
        go_meet
        case rel =>
          refine ⟨?_, (Touch.refl (fun k => k = b9) w6a).setCell (p := ⟨b9, 2, none⟩) (fun _ => rfl) _⟩
          have q1 := heap_setCell_same w6a b9 2 _ 136 (.string ⟨f0.now.toArray⟩) HB96.out
          rw [q1, HFc.out]
          rfl
    case rest =>
      rename World => w7c
      have H7c := hcut
      have h79 : b7 ≠ b9 := by have := HZ1.out.1; omega
      have hb7c := H7c.out.2.at' HB76.out h79
      have c70 : w7c.cell? ⟨b7, 0, none⟩ = some (.int .i64 (p.no : Int)) := cellOf hb7c 0
      have c71 : w7c.cell? ⟨b7, 1, none⟩ = some (.int .u8 (p.kind.toNat : Int)) := cellOf hb7c 1
      have c72 : w7c.cell? ⟨b7, 2, none⟩ = some (.slice va N vc) := cellOf hb7c 2
      have HG7 := hid (show GQ w7c (fun k => w.heap.size ≤ k ∧ k < w1.heap.size) ⟨va, vc, hs⟩ from HG6.out.touch H7c.out.2 (fun k hk e => by have := HZ1.out; omega))
      have HBy := hid (show Calls Tryz.prog 52 #[.agg #[.int .i64 (p.no : Int), .int .u8 (p.kind.toNat : Int), .slice va N vc]] w7c _ from rbytes_any p.no p.kind va hs N vc HHs.out.2 w7c HG7.out HNo.out.1 (by rw [HHs.out.1]; exact HNo.out.2))
      clear hb7c h79 c1 c22 fz2
      go_upto_region 19 with (first
        | (go_at_call 52; refine HBy.out.mono ?_; rintro e w7d ⟨ra, rc, rfl, H7d⟩
           have hAt7 : At w7d ra (F.nw bs) := by
             rw [HNw.out]
             have q := row_at H7d.out.1
             rw [HHs.out.1] at q
             exact q
           have hcv : (convert 43 9 (.slice ra 256 rc)).run Tryz.prog w7d = .ok (.string ⟨(F.nw bs).toArray⟩) w7d := by
             have q := conv_at w7d ra (F.nw bs) rc hAt7
             rw [HLb.out] at q
             exact q
           have hb7d := H7d.out.2.at' H7c.out.1 id
           have HB7d := hid hb7d
           have k1 := cellOf hb7d 1
           have fk1 := frozen_of_row w7d b9 1 _ 136 hb7d
           have k3 := cellOf hb7d 3
           have fk3 := frozen_of_row w7d b9 3 _ 136 hb7d
           have KK := hid trivial
           clear hAt7 hb7d))
      have HFc2 := hid (show fc f2 = [.int .i64 f1.no, Str (F.nw bs), Str f1.was, .bool true, .bool f1.dirty] by rw [HF2.out]; rfl)
      go_upto_region 20 with fail
      obtain ⟨w8a, hw8⟩ : ∃ w8a, (w7d.setCell ⟨b9, 1, none⟩ (.string ⟨(F.nw bs).toArray⟩)).setCell ⟨b9, 3, none⟩ (.bool true) = w8a := ⟨_, rfl⟩
      have HB8 := hid (show w8a.heap[b9]? = some (.cells (fc f2).toArray 136 (0, 0)) by
        have q1 := heap_setCell_same w7d b9 1 _ 136 (.string ⟨(F.nw bs).toArray⟩) HB7d.out
        have q2 := heap_setCell_same _ b9 3 _ 136 (.bool true) q1
        rw [← hw8, q2, HFc2.out]
        rfl)
      have hT8 : Touch (fun k => k = b9) w6a w8a := by
        rw [← hw8]
        exact (((H7c.out.2.trans (H7d.out.2.mono (fun _ _ c => c.elim))).setCell (p := ⟨b9, 1, none⟩) (fun _ => rfl) _).setCell (p := ⟨b9, 3, none⟩) (fun _ => rfl) _)
      have hn9 : ¬ O6 b9 := HnO.out b9 HZ9.out.1 HZ4.out
      have HQ8 := hid (HQ6.out.touch hT8 (fun k hk e => hn9 (by rw [← e]; exact hk)))
      have HQs8 := hid (show Qs w O w8a O6 from ⟨HQs.out.1.then hT8 (fun k hk e => by have := HZ9.out.1; omega), fun k c => by
        have hz8 := hT8.size
        rcases HQs.out.2 k c with c | c
        · exact .inl c
        · exact .inr ⟨c.1, by omega⟩⟩)
      have HN9 := hid hn9
      rw [hw8]
      clear hw8 hT8 hn9 k1 fk1 k3 fk3 hcv c70 c71 c72
      have HS2 := hid (show (∀ w', Adds w8a w' → (fun w' : World => w'.heap[q]? = some (QBox r { s with L := F.cutI s.L j } lv6) ∧ w'.heap[b9]? = some (.cells (fc f2).toArray 136 (0, 0))) w') ∧ (∀ w6 w7, Adds w8a w6 → w6.grownBy w7 lv6.ownBlock → (fun w' : World => w'.heap[q]? = some (QBox r { s with L := F.cutI s.L j } lv6) ∧ w'.heap[b9]? = some (.cells (fc f2).toArray 136 (0, 0))) w7) from ⟨fun w' hA => ⟨(HQ8.out.adds hA).box, hA.at' HB8.out id⟩, fun w6 w7 hA hg => ⟨by
        have hT := (hA.mono (U := fun k => lv6.ownBlock = some k) (fun _ _ c => c.elim)).trans (grown_touch hg)
        exact hT.at' HQ8.out.box (fun c => HQ8.out.ne c rfl), by
        have hT := (hA.mono (U := fun k => lv6.ownBlock = some k) (fun _ _ c => c.elim)).trans (grown_touch hg)
        exact hT.at' HB8.out (fun c => HN9.out (HQ8.out.ol b9 c))⟩⟩)
      have HLn6 := hid (show ({ s with L := F.cutI s.L j } : F.Po).L.length + 1 ≤ 100000 by show (F.cutI s.L j).length + 1 ≤ 100000; have := F.cut_len s.L j; have := HLl.out; omega)
      refine E_begin (S := fun w' : World => w'.heap[q]? = some (QBox r { s with L := F.cutI s.L j } lv6) ∧ w'.heap[b9]? = some (.cells (fc f2).toArray 136 (0, 0))) (X := 10) (by kernel_rfl) ?_
      have hS0 : (fun w' : World => w'.heap[q]? = some (QBox r { s with L := F.cutI s.L j } lv6) ∧ w'.heap[b9]? = some (.cells (fc f2).toArray 136 (0, 0))) w8a.drew := ⟨HQ8.out.box, HB8.out⟩
      refine E_put (i := 0) 68 (v := .pointer (some ⟨q, 0, none⟩)) rfl rfl (by kernel_rfl) (by kernel_rfl) (by kernel_rfl) (by kernel_rfl) (fun _ _ _ h => h) (Or.inl ⟨by rfl, fun w' hw' => ?_⟩) hS0 ?_
      · rfl
      simp only [Act.put, List.setIfInBounds_toArray, List.set_cons_zero, List.set_cons_succ]
      refine E_put (i := 1) 69 (v := .pointer (some ⟨q, 0, none⟩)) rfl rfl (by kernel_rfl) (by kernel_rfl) (by kernel_rfl) (by kernel_rfl) (fun _ _ _ h => h) (Or.inl ⟨by rfl, fun w' hw' => ?_⟩) hS0 ?_
      · rfl
      simp only [Act.put, List.setIfInBounds_toArray, List.set_cons_zero, List.set_cons_succ]
      refine E_put (i := 2) 70 (v := .pointer (some ⟨q, 0, none⟩)) rfl rfl (by kernel_rfl) (by kernel_rfl) (by kernel_rfl) (by kernel_rfl) (fun _ _ _ h => h) (Or.inl ⟨by rfl, fun w' hw' => ?_⟩) hS0 ?_
      · go_simp
      simp only [Act.put, List.setIfInBounds_toArray, List.set_cons_zero, List.set_cons_succ]
      refine E_put (i := 3) 71 (v := .pointer (some ⟨q, 4, none⟩)) rfl rfl (by kernel_rfl) (by kernel_rfl) (by kernel_rfl) (by kernel_rfl) (fun _ _ _ h => h) (Or.inl ⟨by rfl, fun w' hw' => ?_⟩) hS0 ?_
      · go_simp
      simp only [Act.put, List.setIfInBounds_toArray, List.set_cons_zero, List.set_cons_succ]
      refine E_put (i := 4) 72 (v := lv6) rfl rfl (by kernel_rfl) (by kernel_rfl) (by kernel_rfl) (by kernel_rfl) (fun _ _ _ h => h) (Or.inl ⟨by rfl, fun w' hw' => ?_⟩) hS0 ?_
      · (have c := cellOf hw'.1 4; clear hw'; go_simp)
      simp only [Act.put, List.setIfInBounds_toArray, List.set_cons_zero, List.set_cons_succ]
      refine E_put (i := 5) 73 (v := .agg (fc f2).toArray) rfl rfl (by kernel_rfl) (by kernel_rfl) (by kernel_rfl) (by kernel_rfl) (fun _ _ _ h => h) (yieldsIf_load_mid (by rfl) 136 (.tmp 9) rfl b9 0 rfl (fc f2) _ (fun w' hw' => range_box hw'.2) Tryz.underlying136 rfl (infoFr f2)) hS0 ?_
      simp only [Act.put, List.setIfInBounds_toArray, List.set_cons_zero, List.set_cons_succ]
      obtain ⟨w6, hw6⟩ : ∃ w6, w6 = w8a.drew.alloc (.cells (fc f2).toArray 136) := ⟨_, rfl⟩
      have hA6 : Adds w8a w6 := by rw [hw6]; exact (Touch.refl _ w8a).drew.alloc _
      have hN6 : w6.heap[w8a.heap.size]? = some (.cells (fc f2).toArray 136 (0, 0)) := by rw [hw6]; exact heap_alloc_new w8a.drew _
      have HZ6 := hid (show w6.heap.size = w8a.heap.size + 1 by rw [hw6]; simp)
      have hS6 := HS2.out.1 w6 hA6
      refine E_do (i := 6) (some 74) (by kernel_rfl) rfl rfl rfl (fun K hK => ?_)
      refine wp_buildSlice 90 1 0 (.tmp 73) rfl rfl (build_fr f2 _) ?_
      rw [← hw6]
      refine hK _ _ (fun _ => hS6) ?_
      clear hK K
      simp only [Act.put, List.setIfInBounds_toArray, List.set_cons_zero, List.set_cons_succ]
      have HA6 := hid hA6
      have HN6 := hid hN6
      clear hw6 hA6 hN6 hS0
      refine E_do (i := 7) (some 75) (by kernel_rfl) rfl rfl rfl (fun K hK => ?_)
      refine wp_append_fr _ _ rfl 0 lv6 _ _ rfl (HQ8.out.adds HA6.out).row ⟨w8a.heap.size, 0, none⟩ 1 1 [f2] rfl rfl (box_cells HN6.out) HLn6.out (Nat.zero_le _) ?_
      intro v7 w7 hr7 hg7 ha7
      obtain ⟨hb7, hp7⟩ := q_pushed HQ8.out HA6.out hr7 hg7 ha7
      have hS7 := HS2.out.2 w6 w7 HA6.out hg7
      obtain ⟨va7, vc7, ev7⟩ := row_form hr7
      subst ev7
      refine hK _ _ (fun _ => hS7) ?_
      clear hK K
      simp only [Act.put, List.setIfInBounds_toArray, List.set_cons_zero, List.set_cons_succ]
      have HP7 := hid hp7
      have HG7 := hid hg7
      have c47 := cellOf hb7 4
      have f47 := frozen_of_row w7 q 4 _ 92 hb7
      clear hr7 hg7 ha7 hp7 hb7
      refine E_do (i := 8) (some 76) (by kernel_rfl) rfl rfl rfl (fun K hK => ?_)
      go_simp
      refine hK (.pointer (some ⟨q, 0, none⟩)) _ (fun _ => hS7) ?_
      clear hK K
      simp only [Act.put, List.setIfInBounds_toArray, List.set_cons_zero, List.set_cons_succ]
      refine E_do (i := 9) (some 77) (by kernel_rfl) rfl rfl rfl (fun K hK => ?_)
      go_simp
      refine hK (.pointer (some ⟨q, 4, none⟩)) _ (fun _ => hS7) ?_
      clear hK K
      simp only [Act.put, List.setIfInBounds_toArray, List.set_cons_zero, List.set_cons_succ]
      refine E_do (i := 10) none (by kernel_rfl) rfl rfl rfl (fun K hK => ?_)
      go_simp
      refine hK undef _ (fun h => absurd rfl h) ?_
      clear hK K hS7
      simp only [Act.put]
      refine E_done (by kernel_rfl) ?_ _
      clear c47 f47
      go_wp2_with fail
      go_ret
      obtain ⟨O8, h8, hs8⟩ := HP7.out
      exact PQ11.of h8 (HQs8.out.trans hs8)
set_option maxRecDepth 100000 in
/-- Put, by the pool's state. -/
theorem qput_any {w : World} {O : Nat → Prop} {q r : Nat} {s : F.Po} (h : IsQ w O q r s) (hO : ∀ k, O k → k < w.heap.size) (hg : F.Good s) (hmo : s.mo ≤ 256) (hn : F.Nil s) (no : Int) (a : Option Addr) (bs : List UInt8) (m cap : Nat) (hm : bs.length = m) (hc : m ≤ cap) (hA : At w a bs) :
    Calls Tryz.prog 54 #[Ptr q, .int .i64 no, .slice a m cap] w (PQ11 w O q r (F.putS s no bs) (.int .i64 (F.putE s no bs : Int))) := by
  obtain ⟨lv, h⟩ := h
  have hl : s.L.length ≤ 9000 := by have := hg.len; omega
  have hS : F.putE s no bs ≠ 0 → F.putS s no bs = s := fun e => by unfold F.putS; rw [if_neg e]
  cases hno : F.inPool s no with
  | false =>
    have e1 : F.putE s no bs = 2 := by unfold F.putE; rw [hno]; rfl
    rw [hS (by rw [e1]; decide), e1]
    exact qput_bad h no hno a m cap
  | true =>
    cases hR : M.readP bs with
    | none =>
      have e1 : F.putE s no bs = 22 := by unfold F.putE; rw [hno, hR]; rfl
      rw [hS (by rw [e1]; decide), e1]
      exact qput_none h no hno a bs m cap hR hm hc hA
    | some p =>
      by_cases hp : (p.no : Int) = no
      · rcases F.idx_is s.L no with ⟨i, hi, e, hin, ha⟩ | ⟨e, ha, hall⟩
        · have hr := (need_at ha).2
          have e1 : F.putE s no bs = 0 := by unfold F.putE; rw [hno, hR]; simp [hp, hr]
          have e2 : F.putS s no bs = { s with L := F.cutI s.L (i : Int) ++ [{ F.kp (F.had s no) with now := F.nw bs, fresh := true }] } := by
            unfold F.putS
            rw [if_pos e1, ← had_put hn no bs]
            exact F.held_idx hg hi hin ha _
          rw [e1, e2]
          exact qput_ok h hO hl no hno a bs m cap p hR hp hm hc hA (i : Int) (i : Int) (F.had s no) e (by omega) (.inl ⟨i, hi, rfl, rfl, by unfold F.had; rw [ha]⟩) _ rfl
        · rcases F.out_is hg ha hall with ⟨o1, o2⟩ | ⟨j, o1, o2, o3, o4, o5⟩
          · have e1 : F.putE s no bs = 33 := by unfold F.putE; rw [hno, hR]; simp [hp, o2]
            rw [hS (by rw [e1]; decide), e1]
            exact qput_busy h hl no hno a bs m cap p hR hp hm hc hA e o1
          · have e1 : F.putE s no bs = 0 := by unfold F.putE; rw [hno, hR]; simp [hp, o4]
            have e2 : F.putS s no bs = { s with L := F.cutI s.L j ++ [{ F.kp (F.had s no) with now := F.nw bs, fresh := true }] } := by
              unfold F.putS
              rw [if_pos e1, ← had_put hn no bs]
              exact o5 _
            rw [e1, e2]
            exact qput_ok h hO hl no hno a bs m cap p hR hp hm hc hA (-1) j (F.had s no) e o3 (.inr ⟨rfl, o1, o2, by unfold F.had; rw [ha]⟩) _ rfl
      · have e1 : F.putE s no bs = 23 := by unfold F.putE; rw [hno, hR]; simp [hp]
        rw [hS (by rw [e1]; decide), e1]
        exact qput_stale h no hno a bs m cap p hR hp hm hc hA
end Go.Proofs.YtjlennpoaefllaaGreatDoor

/- The reference's call Flush. -/
namespace Go.Proofs.YtjlennpoaefllaaGreatDoor
open Go.RowKit

/-- What Flush leaves. -/
def PQF (w : World) (O OR : Nat → Prop) (q r : Nat) (s : F.Po) (D : dSt) (z : Int) (e : Ending) (w' : World) : Prop := e = .returned (.int .i64 z) ∧ Hid (IsQ w' O q r s ∧ ∃ OR', IsRO w' OR' r D ∧ Touch (fun k => O k ∨ OR k) w w' ∧ ∀ k, OR' k → OR k ∨ (w.heap.size ≤ k ∧ k < w'.heap.size))
/-- On the way through the writes. -/
structure QWay (w wr : World) (O OR : Nat → Prop) (q r : Nat) (s : F.Po) (lv : Value) (zs : List Int) (D0 : dSt) (k0 i : Nat) : Prop where
  q : QAt wr O q r s lv
  disk : ∃ D' O', IsRO wr O' r D' ∧ (∀ k, O' k → OR k ∨ (w.heap.size ≤ k ∧ k < wr.heap.size)) ∧ DOk D' (k0 + i) ∧ D'.size = D0.size ∧ goW (F.wrs s zs) (zs.length - i) i D' = goW (F.wrs s zs) zs.length 0 D0
  touch : Touch OR w wr
set_option maxRecDepth 100000 in
set_option maxHeartbeats 4000000 in
theorem qflush_any {w : World} {O OR : Nat → Prop} {q r : Nat} {s : F.Po} {D : dSt} {k0 : Nat} (h : IsQ w O q r s) (hr : IsRO w OR r D) (hk : DOk D k0) (hap : ∀ k, O k → ¬ OR k) (hlt : ∀ k, O k ∨ OR k → k < w.heap.size) (hg : F.Good s) (hok : POk s D) (hk9 : k0 + (F.which s F.isDirty).length ≤ 890) :
    Calls Tryz.prog 49 #[Ptr q] w (PQF w O OR q r (F.flS s D) (F.flX s D).2 (F.flX s D).1) := by
  obtain ⟨lv, h⟩ := h
  have hl : s.L.length ≤ 9000 := by have := hg.len; have := hok.mo2; omega
  obtain ⟨n, hn⟩ : ∃ n : Nat, s.ct = (n : Int) := ⟨s.ct.toNat, by have := hok.ct1; omega⟩
  have hn2 : n ≤ 10000 := by have := hok.fit; have := hok.size; have := hok.fr0; omega
  have HW1 := hid (show Calls Tryz.prog 60 #[.pointer (some ⟨q, 0, none⟩), .int .i64 1] w (PNums w (F.which s F.isFresh)) by rw [← F.nums_which hg F.isFresh hn.symm]; exact qwhere_any h (by omega) n hn hn2 1 F.isFresh (.inr (.inl ⟨rfl, rfl⟩)))
  have HW2 := hid (fun w' (hA : Adds w w') => show Calls Tryz.prog 60 #[.pointer (some ⟨q, 0, none⟩), .int .i64 2] w' (PNums w' (F.which s F.isDirty)) by rw [← F.nums_which hg F.isDirty hn.symm]; exact qwhere_any (h.adds hA) (by omega) n hn hn2 2 F.isDirty (.inr (.inr ⟨rfl, rfl⟩)))
  have HSame := hid (fun w' (hA : Adds w w') (z : Int) => show PQF w O OR q r s D z (.returned (.int .i64 z)) w' from ⟨rfl, ⟨lv, h.adds hA⟩, OR, hr.adds hA, hA.mono (fun _ _ c => c.elim), fun _ c => .inl c⟩)
  unfold Ptr at *
  by_cases hq : F.which s F.isFresh = []
  · rw [hq] at HW1
    by_cases hq2 : F.which s F.isDirty = []
    · have e1 : F.flX s D = (0, D) := by unfold F.flX; rw [if_pos hq, if_pos hq2]
      have e2 : F.flS s D = s := by
        unfold F.flS
        rw [e1, if_pos rfl]
        have : s.L.map F.cln = s.L := by
          conv => rhs; rw [← List.map_id s.L]
          refine List.map_congr_left (fun f hf => ?_)
          have a1 := F.which_nil hq f hf
          have a2 := F.which_nil hq2 f hf
          unfold F.isFresh at a1
          unfold F.isDirty at a2
          unfold F.cln
          rw [a1]
          cases f
          simp_all
        rw [this]
      rw [e1, e2]
      rw [hq2] at HW2
      clear h hr hk hap hlt hg hok hk9 hq hq2 e1 e2 hl hn
      go_enter Tryz.func49, Tryz.ntmps49
      go_upto_region 3 with (first
        | (go_at_call 60; refine HW1.out.mono ?_; rintro e w1 ⟨v1, rfl, H1⟩; obtain ⟨a1, k1, rfl, _⟩ := row_get H1.out.1))
      go_wp2_with (first
        | (go_at_call 60; refine (HW2.out w1 H1.out.2).mono ?_; rintro e w2 ⟨v2, rfl, H2⟩; obtain ⟨a2, k2, rfl, _⟩ := row_get H2.out.1))
      go_ret
      exact HSame.out w2 (H1.out.2.trans H2.out.2) 0
    · obtain ⟨zs, hzs⟩ : ∃ zs, zs = F.which s F.isDirty := ⟨_, rfl⟩
      have e1 : F.flX s D = goW (F.wrs s zs) zs.length 0 D := by unfold F.flX; rw [if_pos hq, if_neg hq2, hzs]
      have HFs := hid (show F.flS s D = if (goW (F.wrs s zs) zs.length 0 D).1 = 0 then { s with L := s.L.map F.cln } else s by unfold F.flS; rw [e1])
      rw [e1]
      rw [← hzs] at HW2 hk9 hq2
      have HNf := hid (F.which_nil hq)
      have HZ := hid hzs
      have hlz : 0 < zs.length := List.length_pos_iff.2 hq2
      have HQ := hid h
      have HD := hid hr
      have HK := hid (And.intro hk hk9)
      have HAp := hid hap
      have HLt := hid hlt
      have HG := hid hg
      have HOk := hid hok
      have HFd := hid (fun w' (hQ : QAt w' O q r s lv) (z : Int) (x : Int) (hx : x = F.idx s.L z) => show Calls Tryz.prog 84 #[.pointer (some ⟨q, 0, none⟩), .int .i64 z] w' (Tells (.int .i64 x) w') by rw [hx]; exact qfind_any hQ z (by omega))
      have HSL := hid hl
      clear h hr hk hap hlt hg hok hk9 hq hq2 e1 hzs hn hl
      obtain ⟨X, hX⟩ : ∃ X, X = goW (F.wrs s zs) zs.length 0 D := ⟨_, rfl⟩
      rw [← hX] at HFs ⊢
      have HX := hid hX
      clear hX
      obtain ⟨zl, hzl⟩ : ∃ zl, zl = zs.length := ⟨_, rfl⟩
      have HZL := hid hzl
      rw [← hzl] at hlz HK HX
      go_enter Tryz.func49, Tryz.ntmps49
      go_upto_region 3 with (first
        | (go_at_call 60; refine HW1.out.mono ?_; rintro e w1 ⟨v1, rfl, H1⟩; obtain ⟨a1, k1, rfl, _⟩ := row_get H1.out.1))
      go_upto_region 4 with (first
        | (go_at_call 60; refine (HW2.out w1 H1.out.2).mono ?_; rintro e w2 ⟨v2, rfl, H2⟩))
      obtain ⟨la, lc, rfl, hget⟩ := row_get H2.out.1
      have HA2 := hid (H1.out.2.trans H2.out.2)
      have HGet := hid (fun i (hi : i < zs.length) => show ∃ b o, la = some ⟨b, o, none⟩ ∧ w.heap.size ≤ b ∧ w2.cell? ⟨b, o + i, none⟩ = some (.int .i64 zs[i]) by
        obtain ⟨b, o, e1, e2, e3⟩ := hget i hi
        have := (row_low H2.out.1 e2).1
        have := H1.out.2.size
        exact ⟨b, o, e1, by omega, e3⟩)
      rw [← hzl]
      clear hget hzl
      have hnz : ¬ (zl : Int) = 0 := by omega
      have hnz' : ((zl : Int) == 0) = false := by simpa using hnz
      have hzl9 : zl ≤ 890 := by have := HK.out.2; omega
      have HI0 : Hid (QWay w2 w2 O OR q r s lv zs D k0 0) := ⟨HQ.out.adds HA2.out, ⟨D, OR, HD.out.adds HA2.out, fun _ c => .inl c, HK.out.1, rfl, rfl⟩, Touch.refl _ _⟩
      go_wp2_with fail
      go_loopw [4] (fun iv wr => ∃ i : Nat, iv = .int .i64 (i : Int) ∧ i ≤ zl ∧ Hid (QWay w2 wr O OR q r s lv zs D k0 i)) (fun iv _ => zl - (intOf iv).toNat)
      case atStart => exact ⟨0, rfl, Nat.zero_le _, HI0.out⟩
      case round =>
        obtain ⟨i, rfl, hi, HI⟩ := hrel
        by_cases hlt : i < zl
        · have hltz : (i : Int) < (zl : Int) := by omega
          have hlt' : i < zs.length := by rw [← HZL.out]; exact hlt
          obtain ⟨lb, lo, ea, hlb, hcz⟩ := HGet.out i hlt'
          obtain ⟨z, hz⟩ : ∃ z, z = zs[i] := ⟨_, rfl⟩
          rw [← hz] at hcz
          have hlbOR : ¬ OR lb := fun c => by have := HLt.out lb (.inr c); omega
          have dz : wr.cell? ⟨lb, lo + i, none⟩ = some (.int .i64 z) := by rw [World.cell?_of_block (w := w2) (HI.out.touch.block lb (World.block_lt_of_cell? _ _ hcz) hlbOR)]; exact hcz
          have hlb2 : lb < w2.heap.size := World.block_lt_of_cell? _ _ hcz
          subst ea
          obtain ⟨f0, hf0, hd0, hn0⟩ := F.mem_which.1 (show z ∈ F.which s F.isDirty by rw [← HZ.out, hz]; exact List.getElem_mem hlt')
          rcases F.idx_is s.L z with ⟨j, hj, ej, hjn, hja⟩ | ⟨_, _, hall⟩
          case inr => exact absurd hn0 (hall f0 hf0)
          obtain ⟨f, hf⟩ : ∃ f, f = s.L[j] := ⟨_, rfl⟩
          have HFd2 := hid (fun w' (hQ : QAt w' O q r s lv) => HFd.out w' hQ z (j : Int) ej.symm)
          obtain ⟨ao, ca, elv, hcap, hat⟩ := HI.out.q.at'
          obtain ⟨g, eao, hob, hcc, hfz⟩ := hat (by omega)
          subst eao
          obtain ⟨sl, hsl⟩ : ∃ sl, sl = s.L.length := ⟨_, rfl⟩
          have d4 : wr.cell? ⟨q, 4, none⟩ = some (.slice (some ⟨g, 0, none⟩) sl ca) := by have c := cellOf HI.out.q.box 4; rw [elv] at c; rw [hsl]; exact c
          have dn : wr.cell? ⟨g, j * 5 + 1, none⟩ = some (.string ⟨f.now.toArray⟩) := by rw [hf]; exact hcc j hj 1 (by omega)
          have hjl : j < sl := by rw [hsl]; exact hj
          have hsl9 : sl ≤ 9000 := by rw [hsl]; exact HSL.out
          have hfL : f ∈ s.L := by rw [hf]; exact List.getElem_mem hj
          obtain ⟨p, hRp, hpn⟩ := HG.out.pgs f hfL
          have HRd := hid hRp
          have HLn := hid ((M.read_ok hRp).2.1)
          have hno := HG.out.nos f hfL
          have hfn : f.no = z := by rw [hf]; exact hjn
          have HF := hid (show F.wrs s zs i = (s.fr + z, sealed (f.now.take 252)) by
            unfold F.wrs F.flD
            have hgz : zs.getD i 0 = z := by rw [hz, List.getD_eq_getElem?_getD, List.getElem?_eq_getElem hlt']; rfl
            rw [hgz, hja, ← hf]
            show (s.fr + z, M.sealP f.now) = _
            rw [sealP_some hRp])
          have hwr : wrap64 (s.fr + z) = s.fr + z := by rw [← hfn]; have := HOk.out.fr0; have := HOk.out.fit; have := HOk.out.size; simp [wrap64]; omega
          have hwi : IntKind.i64.wrap (s.fr + z) = s.fr + z := by rw [IntKind.wrap_i64, ← hfn]; have := HOk.out.fr0; have := HOk.out.fit; have := HOk.out.size; omega
          have HIx := hid (show 0 ≤ s.fr + z ∧ s.fr + z < D.size by rw [← hfn]; have := HOk.out.fr0; have := HOk.out.fit; omega)
          obtain ⟨D', O', hD', hO', hK', hS', hG'⟩ := HI.out.disk
          have HD' := hid hD'
          have HE := hid (And.intro hO' (And.intro hK' (And.intro hS' hG')))
          have HFd := HFd2
          have HLb := hid (And.intro hlb hlb2)
          clear hat hcc hfz hob elv hcap hsl hf hfL hRp hpn hno hfn hz hja hjn ej hf0 hd0 hn0 hD' hO' hK' hS' hG' hcz HFd2 hlbOR hlb hlb2
          go_upto_region 9 with fail
          go_cut [5] from 19 to 61 (fun t5 w' => ∃ sg sk, t5 = .slice (some ⟨sg, 0, none⟩) 256 sk ∧ Hid (At w' (some ⟨sg, 0, none⟩) (sealed (f.now.take 252)) ∧ (sealed (f.now.take 252)).length = 256 ∧ wr.heap.size ≤ sg ∧ Adds wr w'))
          case first =>
            refine H_begin (S := fun w' : World => Adds wr w') (by kernel_rfl) ?_
            have hS : (fun w' : World => Adds wr w') wr.drew := (Touch.refl _ wr).drew
            refine H_put (i := 0) 26 (v := .pointer (some ⟨q, 0, none⟩)) rfl rfl (by kernel_rfl) (by kernel_rfl) (by kernel_rfl) (fun _ _ _ h => h) (Or.inl ⟨by rfl, fun w' hw' => ?_⟩) hS ?_
            · rfl
            simp only [Act.put, List.setIfInBounds_toArray, List.set_cons_zero, List.set_cons_succ]
            refine H_put (i := 1) 27 (v := .pointer (some ⟨q, 0, none⟩)) rfl rfl (by kernel_rfl) (by kernel_rfl) (by kernel_rfl) (fun _ _ _ h => h) (Or.inl ⟨by rfl, fun w' hw' => ?_⟩) hS ?_
            · go_simp
            simp only [Act.put, List.setIfInBounds_toArray, List.set_cons_zero, List.set_cons_succ]
            refine H_put (i := 2) 28 (v := .pointer (some ⟨q, 4, none⟩)) rfl rfl (by kernel_rfl) (by kernel_rfl) (by kernel_rfl) (fun _ _ _ h => h) (Or.inl ⟨by rfl, fun w' hw' => ?_⟩) hS ?_
            · go_simp
            simp only [Act.put, List.setIfInBounds_toArray, List.set_cons_zero, List.set_cons_succ]
            refine H_put (i := 3) 29 (v := .slice (some ⟨g, 0, none⟩) sl ca) rfl rfl (by kernel_rfl) (by kernel_rfl) (by kernel_rfl) (fun _ _ _ h => h) (Or.inl ⟨by rfl, fun w' hw' => ?_⟩) hS ?_
            · (have c := below_adds hw' d4; clear hw'; go_simp)
            simp only [Act.put, List.setIfInBounds_toArray, List.set_cons_zero, List.set_cons_succ]
            refine H_put (i := 4) 30 (v := .pointer (some ⟨q, 0, none⟩)) rfl rfl (by kernel_rfl) (by kernel_rfl) (by kernel_rfl) (fun _ _ _ h => h) (Or.inl ⟨by rfl, fun w' hw' => ?_⟩) hS ?_
            · rfl
            simp only [Act.put, List.setIfInBounds_toArray, List.set_cons_zero, List.set_cons_succ]
            refine H_put (i := 5) 31 (v := .slice (some ⟨lb, lo, none⟩) zl lc) rfl rfl (by kernel_rfl) (by kernel_rfl) (by kernel_rfl) (fun _ _ _ h => h) (Or.inl ⟨by rfl, fun w' hw' => ?_⟩) hS ?_
            · rfl
            simp only [Act.put, List.setIfInBounds_toArray, List.set_cons_zero, List.set_cons_succ]
            refine H_put (i := 6) 32 (v := .int .i64 (i : Int)) rfl rfl (by kernel_rfl) (by kernel_rfl) (by kernel_rfl) (fun _ _ _ h => h) (Or.inl ⟨by rfl, fun w' hw' => ?_⟩) hS ?_
            · rfl
            simp only [Act.put, List.setIfInBounds_toArray, List.set_cons_zero, List.set_cons_succ]
            refine H_put (i := 7) 33 (v := .pointer (some ⟨lb, lo + i, none⟩)) rfl rfl (by kernel_rfl) (by kernel_rfl) (by kernel_rfl) (fun _ _ _ h => h) (Or.inl ⟨by rfl, fun w' hw' => ?_⟩) hS ?_
            · go_simp
            simp only [Act.put, List.setIfInBounds_toArray, List.set_cons_zero, List.set_cons_succ]
            refine H_put (i := 8) 34 (v := .int .i64 z) rfl rfl (by kernel_rfl) (by kernel_rfl) (by kernel_rfl) (fun _ _ _ h => h) (Or.inl ⟨by rfl, fun w' hw' => ?_⟩) hS ?_
            · (have c := below_adds hw' dz; clear hw'; go_simp)
            simp only [Act.put, List.setIfInBounds_toArray, List.set_cons_zero, List.set_cons_succ]
            refine H_call (i := 9) 35 84 #[.pointer (some ⟨q, 0, none⟩), .int .i64 z] (by kernel_rfl) rfl rfl (by rfl) (by go_simp) (HFd.out wr.drew (HI.out.q.adds (Touch.refl _ wr).drew)) ?_
            rintro e _ ⟨rfl, hw⟩
            rw [hw]
            clear hw
            have hS2 : (fun w' : World => Adds wr w') _ := hS
            refine ⟨_, _, rfl, hS2, fun w' h => h, ?_⟩
            clear hS; have hS := hS2; clear hS2
            simp only [Act.put, List.setIfInBounds_toArray, List.set_cons_zero, List.set_cons_succ]
            refine H_put (i := 10) 36 (v := .pointer (some ⟨g, j * 5, none⟩)) rfl rfl (by kernel_rfl) (by kernel_rfl) (by kernel_rfl) (fun _ _ _ h => h) (Or.inl ⟨by rfl, fun w' hw' => ?_⟩) hS ?_
            · go_simp
            simp only [Act.put, List.setIfInBounds_toArray, List.set_cons_zero, List.set_cons_succ]
            refine H_put (i := 11) 37 (v := .pointer (some ⟨g, j * 5 + 1, none⟩)) rfl rfl (by kernel_rfl) (by kernel_rfl) (by kernel_rfl) (fun _ _ _ h => h) (Or.inl ⟨by rfl, fun w' hw' => ?_⟩) hS ?_
            · go_simp
            simp only [Act.put, List.setIfInBounds_toArray, List.set_cons_zero, List.set_cons_succ]
            refine H_put (i := 12) 38 (v := .string ⟨f.now.toArray⟩) rfl rfl (by kernel_rfl) (by kernel_rfl) (by kernel_rfl) (fun _ _ _ h => h) (Or.inl ⟨by rfl, fun w' hw' => ?_⟩) hS ?_
            · (have c := below_adds hw' dn; clear hw'; go_simp)
            simp only [Act.put, List.setIfInBounds_toArray, List.set_cons_zero, List.set_cons_succ]
            obtain ⟨sc, w5, hcv, hsc, hat5, hA5⟩ := str_256Q f.now HLn.out wr.drew
            have hA5' : Adds wr w5 := (show Adds wr wr.drew from (Touch.refl _ wr).drew).trans hA5
            refine H_do (i := 13) (some 39) (by kernel_rfl) rfl rfl (by rfl) (fun K hK => ?_)
            have hcv2 : (convert 9 43 (.string ⟨f.now.toArray⟩)).run Tryz.prog wr.drew = .ok (.slice (some ⟨wr.heap.size, 0, none⟩) 256 sc) w5 := hcv
            go_simp
            refine hK _ _ hA5' ?_
            clear hK K hcv hcv2 hS
            have hS : (fun w' : World => Adds wr w') w5 := hA5'
            simp only [Act.put, List.setIfInBounds_toArray, List.set_cons_zero, List.set_cons_succ]
            refine H_call (i := 14) 40 83 #[.slice (some ⟨wr.heap.size, 0, none⟩) 256 sc] (R := PSealed w5 (sealed (f.now.take 252))) (by kernel_rfl) rfl rfl (by rfl) (by go_simp) (rseal9_some HRd.out (some ⟨wr.heap.size, 0, none⟩) sc w5 HLn.out hsc hat5) ?_
            rintro e w6 ⟨sg, sk, rfl, H6⟩
            have HA6 := hid (show Adds wr w6 from Touch.trans hS H6.out.2.2.2.2)
            have hS2 : (fun w' : World => Adds wr w') _ := HA6.out
            refine ⟨_, _, rfl, hS2, fun w' h => h, ?_⟩
            clear hS; have hS := hS2; clear hS2
            simp only [Act.put, List.setIfInBounds_toArray, List.set_cons_zero, List.set_cons_succ]
            refine H_put (i := 15) 25 (v := .tuple #[.slice (some ⟨sg, 0, none⟩) 256 sk, .int .i64 0]) rfl rfl (by kernel_rfl) (by kernel_rfl) (by kernel_rfl) (fun _ _ _ h => h) (Or.inl ⟨by rfl, fun w' hw' => ?_⟩) hS ?_
            · go_simp
            simp only [Act.put, List.setIfInBounds_toArray, List.set_cons_zero, List.set_cons_succ]
            refine H_put (i := 16) 41 (v := .slice (some ⟨sg, 0, none⟩) 256 sk) rfl rfl (by kernel_rfl) (by kernel_rfl) (by kernel_rfl) (fun _ _ _ h => h) (Or.inl ⟨by rfl, fun w' hw' => ?_⟩) hS ?_
            · go_simp
            simp only [Act.put, List.setIfInBounds_toArray, List.set_cons_zero, List.set_cons_succ]
            refine H_put (i := 17) 42 (v := .int .i64 0) rfl rfl (by kernel_rfl) (by kernel_rfl) (by kernel_rfl) (fun _ _ _ h => h) (Or.inl ⟨by rfl, fun w' hw' => ?_⟩) hS ?_
            · go_simp
            simp only [Act.put, List.setIfInBounds_toArray, List.set_cons_zero, List.set_cons_succ]
            refine H_put (i := 18) 5 (v := .slice (some ⟨sg, 0, none⟩) 256 sk) rfl rfl (by kernel_rfl) (by kernel_rfl) (by kernel_rfl) (fun _ _ _ h => h) (Or.inl ⟨by rfl, fun w' hw' => ?_⟩) hS ?_
            · go_simp
            simp only [Act.put, List.setIfInBounds_toArray, List.set_cons_zero, List.set_cons_succ]
            refine H_put (i := 19) 6 (v := .int .i64 0) rfl rfl (by kernel_rfl) (by kernel_rfl) (by kernel_rfl) (fun _ _ _ h => h) (Or.inl ⟨by rfl, fun w' hw' => ?_⟩) hS ?_
            · go_simp
            simp only [Act.put, List.setIfInBounds_toArray, List.set_cons_zero, List.set_cons_succ]
            refine wpAnyH_done (by kernel_rfl) ?_ _
            go_wp2
            go_meet
            case rel =>
              refine ⟨sg, sk, rfl, At.own H6.out.2.2.2.1, H6.out.2.1, ?_, HA6.out⟩
              have := H6.out.1
              have := hA5'.size
              omega
          case rest =>
          rename World => wc
          obtain ⟨sg, sk, rfl, HC⟩ := hcut
          obtain ⟨sb, hsb⟩ : ∃ sb, sb = sealed (f.now.take 252) := ⟨_, rfl⟩
          rw [← hsb] at HC HF
          clear hsb
          have hQc := HI.out.q.adds HC.out.2.2.2
          have HPt := hid (fun w' (hA : Adds wc w') => show Calls Tryz.prog 85 #[.pointer (some ⟨r, 0, none⟩), .int .i64 (s.fr + z), .string ⟨sb.toArray⟩] w' (PRo w' O' r (if D'.left = 0 then (10, D') else (0, D'.wrote (s.fr + z) sb))) from ro_put ((HD'.out.adds HC.out.2.2.2).adds hA) HE.out.2.1 (by have := HK.out.2; omega) (s.fr + z) (by rw [HE.out.2.2.1]; exact HIx.out) sb HC.out.2.1)
          have HCv := hid (fun (w' : World) (h : At w' (some ⟨sg, 0, none⟩) sb) => show (convert 43 9 (.slice (some ⟨sg, 0, none⟩) 256 sk)).run Tryz.prog w' = .ok (.string ⟨sb.toArray⟩) w' by
            have q := conv_at w' (some ⟨sg, 0, none⟩) sb sk h
            rw [HC.out.2.1] at q
            exact q)
          have HnO := hid (show ∀ k, O k → ¬ O' k from fun k hk c => by
            rcases HE.out.1 k c with c | c
            · exact HAp.out k hk c
            · have := HLt.out k (.inl hk); have := HA2.out.size; omega)
          have HnL := hid (show ¬ O' lb from fun c => by
            rcases HE.out.1 lb c with c | c
            · have := HLt.out lb (.inr c); have := HLb.out; omega
            · have := HLb.out; omega)
          have HnG := hid (show ¬ O' sg from fun c => by
            have h1 := HC.out.2.2.1
            have h2 := HI.out.touch.size
            have h3 := HA2.out.size
            rcases HE.out.1 sg c with c | c
            · have := HLt.out sg (.inr c); omega
            · omega)
          obtain ⟨E, hE⟩ : ∃ E : Int × dSt, E = (if D'.left = 0 then (10, D') else (0, D'.wrote (s.fr + z) sb)) := ⟨_, rfl⟩
          rw [← hE] at HPt
          have HEe := hid hE
          obtain ⟨ez, hez⟩ : ∃ ez, ez = E.1 := ⟨_, rfl⟩
          have HPt := hid (fun w' (hA : Adds wc w') => show Calls Tryz.prog 85 #[.pointer (some ⟨r, 0, none⟩), .int .i64 (s.fr + z), .string ⟨sb.toArray⟩] w' (fun e w'' => e = .returned (.int .i64 ez) ∧ Hid (∃ O8, IsRO w'' O8 r E.2 ∧ Touch O' w' w'' ∧ ∀ k, O8 k → O' k ∨ (w'.heap.size ≤ k ∧ k < w''.heap.size))) by rw [hez]; exact HPt.out w' hA)
          have HEz := hid hez
          clear hE hez
          have HS0 := hid (show (fun w' : World => w'.heap[q]? = some (QBox r s lv) ∧ w'.cell? ⟨lb, lo + i, none⟩ = some (.int .i64 z) ∧ At w' (some ⟨sg, 0, none⟩) sb) wc.drew from ⟨hQc.box, below_adds HC.out.2.2.2 dz, HC.out.1.adds (Touch.refl _ wc).drew⟩)
          clear hQc d4 dn
          go_upto_region 10 with fail
          go_cut [7] from 19 to 61 (fun t7 w' => t7 = .int .i64 ez ∧ Hid (∃ O8, IsRO w' O8 r E.2 ∧ Touch O' wc w' ∧ ∀ k, O8 k → O' k ∨ (wc.heap.size ≤ k ∧ k < w'.heap.size)))
          case first =>
            refine H_begin (S := fun w' : World => w'.heap[q]? = some (QBox r s lv) ∧ w'.cell? ⟨lb, lo + i, none⟩ = some (.int .i64 z) ∧ At w' (some ⟨sg, 0, none⟩) sb) (by kernel_rfl) ?_
            have hS : (fun w' : World => w'.heap[q]? = some (QBox r s lv) ∧ w'.cell? ⟨lb, lo + i, none⟩ = some (.int .i64 z) ∧ At w' (some ⟨sg, 0, none⟩) sb) wc.drew := HS0.out
            refine H_put (i := 0) 43 (v := .pointer (some ⟨q, 0, none⟩)) rfl rfl (by kernel_rfl) (by kernel_rfl) (by kernel_rfl) (fun _ _ _ h => h) (Or.inl ⟨by rfl, fun w' hw' => ?_⟩) hS ?_
            · rfl
            simp only [Act.put, List.setIfInBounds_toArray, List.set_cons_zero, List.set_cons_succ]
            refine H_put (i := 1) 44 (v := .pointer (some ⟨q, 0, none⟩)) rfl rfl (by kernel_rfl) (by kernel_rfl) (by kernel_rfl) (fun _ _ _ h => h) (Or.inl ⟨by rfl, fun w' hw' => ?_⟩) hS ?_
            · go_simp
            simp only [Act.put, List.setIfInBounds_toArray, List.set_cons_zero, List.set_cons_succ]
            refine H_put (i := 2) 45 (v := .pointer (some ⟨q, 0, none⟩)) rfl rfl (by kernel_rfl) (by kernel_rfl) (by kernel_rfl) (fun _ _ _ h => h) (Or.inl ⟨by rfl, fun w' hw' => ?_⟩) hS ?_
            · go_simp
            simp only [Act.put, List.setIfInBounds_toArray, List.set_cons_zero, List.set_cons_succ]
            refine H_put (i := 3) 46 (v := .pointer (some ⟨r, 0, none⟩)) rfl rfl (by kernel_rfl) (by kernel_rfl) (by kernel_rfl) (fun _ _ _ h => h) (Or.inl ⟨by rfl, fun w' hw' => ?_⟩) hS ?_
            · (have c := cellOf hw'.1 0; clear hw'; go_simp)
            simp only [Act.put, List.setIfInBounds_toArray, List.set_cons_zero, List.set_cons_succ]
            refine H_put (i := 4) 47 (v := .pointer (some ⟨q, 0, none⟩)) rfl rfl (by kernel_rfl) (by kernel_rfl) (by kernel_rfl) (fun _ _ _ h => h) (Or.inl ⟨by rfl, fun w' hw' => ?_⟩) hS ?_
            · rfl
            simp only [Act.put, List.setIfInBounds_toArray, List.set_cons_zero, List.set_cons_succ]
            refine H_put (i := 5) 48 (v := .pointer (some ⟨q, 0, none⟩)) rfl rfl (by kernel_rfl) (by kernel_rfl) (by kernel_rfl) (fun _ _ _ h => h) (Or.inl ⟨by rfl, fun w' hw' => ?_⟩) hS ?_
            · go_simp
            simp only [Act.put, List.setIfInBounds_toArray, List.set_cons_zero, List.set_cons_succ]
            refine H_put (i := 6) 49 (v := .pointer (some ⟨q, 1, none⟩)) rfl rfl (by kernel_rfl) (by kernel_rfl) (by kernel_rfl) (fun _ _ _ h => h) (Or.inl ⟨by rfl, fun w' hw' => ?_⟩) hS ?_
            · go_simp
            simp only [Act.put, List.setIfInBounds_toArray, List.set_cons_zero, List.set_cons_succ]
            refine H_put (i := 7) 50 (v := .int .i64 s.fr) rfl rfl (by kernel_rfl) (by kernel_rfl) (by kernel_rfl) (fun _ _ _ h => h) (Or.inl ⟨by rfl, fun w' hw' => ?_⟩) hS ?_
            · (have c := cellOf hw'.1 1; clear hw'; go_simp)
            simp only [Act.put, List.setIfInBounds_toArray, List.set_cons_zero, List.set_cons_succ]
            refine H_put (i := 8) 51 (v := .slice (some ⟨lb, lo, none⟩) zl lc) rfl rfl (by kernel_rfl) (by kernel_rfl) (by kernel_rfl) (fun _ _ _ h => h) (Or.inl ⟨by rfl, fun w' hw' => ?_⟩) hS ?_
            · rfl
            simp only [Act.put, List.setIfInBounds_toArray, List.set_cons_zero, List.set_cons_succ]
            refine H_put (i := 9) 52 (v := .int .i64 (i : Int)) rfl rfl (by kernel_rfl) (by kernel_rfl) (by kernel_rfl) (fun _ _ _ h => h) (Or.inl ⟨by rfl, fun w' hw' => ?_⟩) hS ?_
            · rfl
            simp only [Act.put, List.setIfInBounds_toArray, List.set_cons_zero, List.set_cons_succ]
            refine H_put (i := 10) 53 (v := .pointer (some ⟨lb, lo + i, none⟩)) rfl rfl (by kernel_rfl) (by kernel_rfl) (by kernel_rfl) (fun _ _ _ h => h) (Or.inl ⟨by rfl, fun w' hw' => ?_⟩) hS ?_
            · go_simp
            simp only [Act.put, List.setIfInBounds_toArray, List.set_cons_zero, List.set_cons_succ]
            refine H_put (i := 11) 54 (v := .int .i64 z) rfl rfl (by kernel_rfl) (by kernel_rfl) (by kernel_rfl) (fun _ _ _ h => h) (Or.inl ⟨by rfl, fun w' hw' => ?_⟩) hS ?_
            · (have c := hw'.2.1; clear hw'; go_simp)
            simp only [Act.put, List.setIfInBounds_toArray, List.set_cons_zero, List.set_cons_succ]
            refine H_put (i := 12) 55 (v := .int .i64 (s.fr + z)) rfl rfl (by kernel_rfl) (by kernel_rfl) (by kernel_rfl) (fun _ _ _ h => h) (Or.inl ⟨by rfl, fun w' hw' => ?_⟩) hS ?_
            · (clear hw'; go_simp)
            simp only [Act.put, List.setIfInBounds_toArray, List.set_cons_zero, List.set_cons_succ]
            refine H_put (i := 13) 56 (v := .slice (some ⟨sg, 0, none⟩) 256 sk) rfl rfl (by kernel_rfl) (by kernel_rfl) (by kernel_rfl) (fun _ _ _ h => h) (Or.inl ⟨by rfl, fun w' hw' => ?_⟩) hS ?_
            · rfl
            simp only [Act.put, List.setIfInBounds_toArray, List.set_cons_zero, List.set_cons_succ]
            refine H_put (i := 14) 57 (v := .string ⟨sb.toArray⟩) rfl rfl (by kernel_rfl) (by kernel_rfl) (by kernel_rfl) (fun _ _ _ h => h) (Or.inl ⟨by rfl, fun w' hw' => ?_⟩) hS ?_
            · (have c := HCv.out w' hw'.2.2; clear hw'; go_simp)
            simp only [Act.put, List.setIfInBounds_toArray, List.set_cons_zero, List.set_cons_succ]
            refine H_call (i := 15) 58 85 #[.pointer (some ⟨r, 0, none⟩), .int .i64 (s.fr + z), .string ⟨sb.toArray⟩] (by kernel_rfl) rfl rfl (by rfl) (by go_simp) (HPt.out wc.drew (Touch.refl _ wc).drew) ?_
            rintro e w8 ⟨rfl, H8⟩
            obtain ⟨O8, hd8, hT8, hO8⟩ := H8.out
            have hS2 : (fun w' : World => w'.heap[q]? = some (QBox r s lv) ∧ w'.cell? ⟨lb, lo + i, none⟩ = some (.int .i64 z) ∧ At w' (some ⟨sg, 0, none⟩) sb) _ := ⟨hT8.at' hS.1 (HnO.out q HI.out.q.oq), by rw [World.cell?_of_block (w := wc.drew) (hT8.block lb (World.block_lt_of_cell? _ _ hS.2.1) HnL.out)]; exact hS.2.1, hS.2.2.block (fun b o e hb => by cases e; exact hT8.block _ hb HnG.out)⟩
            refine ⟨_, _, rfl, hS2, fun w' h => h, ?_⟩
            clear hS; have hS := hS2; clear hS2
            simp only [Act.put, List.setIfInBounds_toArray, List.set_cons_zero, List.set_cons_succ]
            refine H_put (i := 16) 7 (v := .int .i64 ez) rfl rfl (by kernel_rfl) (by kernel_rfl) (by kernel_rfl) (fun _ _ _ h => h) (Or.inl ⟨by rfl, fun w' hw' => ?_⟩) hS ?_
            · go_simp
            simp only [Act.put, List.setIfInBounds_toArray, List.set_cons_zero, List.set_cons_succ]
            refine wpAnyH_done (by kernel_rfl) ?_ _
            go_wp2
            go_meet
            case rel => exact ⟨rfl, O8, hd8, ((Touch.refl _ wc).drew).trans hT8, hO8⟩
          case rest =>
          rename World => w9
          obtain ⟨rfl, H9⟩ := hcut
          by_cases hoff : D'.left = 0
          · have e0 : E = (10, D') := by rw [HEe.out, if_pos hoff]
            have hez : ez = 10 := by rw [HEz.out, e0]
            subst hez
            go_wp2_with fail
            go_ret
            obtain ⟨O9, h1, h2, h3⟩ := H9.out
            have e1 : X = (10, D') := by rw [HX.out, HZL.out, ← HE.out.2.2.2, show zs.length - i = (zs.length - i - 1) + 1 by omega, goW, if_pos hoff]
            have hs2 : F.flS s D = s := by rw [HFs.out, e1]; rfl
            rw [e1, hs2]
            rw [e0] at h1
            have z0 := HA2.out.size
            have z1 := HI.out.touch.size
            have z2 := HC.out.2.2.2.size
            have z4 := h2.size
            have hT9 : Touch (fun k => O k ∨ OR k) w w9 := by
              refine ((HA2.out.mono (fun _ _ c => c.elim)).then HI.out.touch (fun k _ c => .inr c)).then ((HC.out.2.2.2.mono (U := O') (fun _ _ c => c.elim)).trans h2) (fun k hk c => ?_)
              rcases HE.out.1 k c with c | c
              · exact .inr c
              · omega
            refine ⟨rfl, ⟨lv, (HI.out.q.adds HC.out.2.2.2).touch h2 (fun k hk => HnO.out k hk)⟩, O9, h1, hT9, fun k c => ?_⟩
            rcases h3 k c with c | c
            · rcases HE.out.1 k c with c | c
              · exact .inl c
              · exact .inr ⟨by omega, by omega⟩
            · exact .inr ⟨by omega, c.2⟩
          · have e0 : E = (0, D'.wrote (s.fr + z) sb) := by rw [HEe.out, if_neg hoff]
            have hez : ez = 0 := by rw [HEz.out, e0]
            subst hez
            go_wp2_with fail
            go_roundw
            case rel =>
              obtain ⟨O9, h1, h2, h3⟩ := H9.out
              rw [e0] at h1
              have z1 := HI.out.touch.size
              have z2 := HC.out.2.2.2.size
              have z4 := h2.size
              refine ⟨i + 1, by go_num, by omega, (HI.out.q.adds HC.out.2.2.2).touch h2 (fun k hk => HnO.out k hk), ⟨_, O9, h1, fun k c => ?_, (HE.out.2.1.wrote _ _).mono (by omega), HE.out.2.2.1, ?_⟩, (HI.out.touch.trans (HC.out.2.2.2.mono (fun _ _ c => c.elim))).then h2 (fun k hk c => ?_)⟩
              · rcases h3 k c with c | c
                · rcases HE.out.1 k c with c | c
                  · exact .inl c
                  · exact .inr ⟨c.1, by omega⟩
                · exact .inr ⟨by omega, c.2⟩
              · rw [← HE.out.2.2.2, show zs.length - i = (zs.length - (i + 1)) + 1 by omega, goW, if_neg hoff, HF.out]
              · rcases HE.out.1 k c with c | c
                · exact c
                · omega
            case measure => simp [intOf]; omega
        · have hltz : ¬ (i : Int) < (zl : Int) := by omega
          obtain rfl : i = zl := by omega
          obtain ⟨D', O', hD', hO', hK', hS', hG'⟩ := HI.out.disk
          have c0 : wr.cell? ⟨q, 0, none⟩ = some (.pointer (some ⟨r, 0, none⟩)) := cellOf HI.out.q.box 0
          obtain ⟨E, hE⟩ : ∃ E : Int × dSt, E = (if D'.left = 0 then (10, D') else (0, D'.synced)) := ⟨_, rfl⟩
          have HSy := hid (show Calls Tryz.prog 86 #[.pointer (some ⟨r, 0, none⟩)] wr (PRo wr O' r E) by rw [hE]; exact ro_sync hD' hK' (by have := HK.out.2; omega))
          have e1 : X = E := by
            have hG2 := hG'
            rw [← HZL.out, Nat.sub_self, goW] at hG2
            rw [HX.out, ← hG2, hE]
          have HXE := hid e1
          have HnO := hid (show ∀ k, O k → ¬ O' k from fun k hk c => by
            rcases hO' k c with c | c
            · exact HAp.out k hk c
            · have := HLt.out k (.inl hk); have := HA2.out.size; omega)
          have HO' := hid hO'
          clear hD' hO' hK' hS' hG' e1
          obtain ⟨ez, hez⟩ : ∃ ez, ez = E.1 := ⟨_, rfl⟩
          have HSy := hid (show Calls Tryz.prog 86 #[.pointer (some ⟨r, 0, none⟩)] wr (fun e w'' => e = .returned (.int .i64 ez) ∧ Hid (∃ O8, IsRO w'' O8 r E.2 ∧ Touch O' wr w'' ∧ ∀ k, O8 k → O' k ∨ (wr.heap.size ≤ k ∧ k < w''.heap.size))) by rw [hez]; exact HSy.out)
          have HEz := hid hez
          clear hE hez
          go_upto_region 14 with (first | (go_at_call 86; refine HSy.out.mono ?_; rintro e w9 ⟨rfl, H9⟩))
          obtain ⟨O9, h1, h2, h3⟩ := H9.out
          have z0 := HA2.out.size
          have z1 := HI.out.touch.size
          have z4 := h2.size
          have HT9 := hid (show Touch (fun k => O k ∨ OR k) w w9 by
            refine ((HA2.out.mono (fun _ _ c => c.elim)).then HI.out.touch (fun k _ c => .inr c)).then h2 (fun k hk c => ?_)
            rcases HO'.out k c with c | c
            · exact .inr c
            · omega)
          have HN9 := hid (show ∀ k, O9 k → OR k ∨ (w.heap.size ≤ k ∧ k < w9.heap.size) from fun k c => by
            rcases h3 k c with c | c
            · rcases HO'.out k c with c | c
              · exact .inl c
              · exact .inr ⟨by omega, by omega⟩
            · exact .inr ⟨by omega, c.2⟩)
          have HQ9 := hid (HI.out.q.touch h2 (fun k hk => HnO.out k hk))
          have HR9 := hid h1
          clear h1 h2 h3 z0 z1 z4 c0
          by_cases hx : ez = 0
          · subst hx
            have HS2 := hid (show F.flS s D = { s with L := s.L.map F.cln } by rw [HFs.out, HXE.out, ← HEz.out]; rfl)
            have HX0 := hid (show X.1 = 0 ∧ X.2 = E.2 by rw [HXE.out]; exact ⟨HEz.out.symm, rfl⟩)
            have HCl := hid (show ∀ f ∈ s.L, F.cln f = { f with dirty := false } from fun f hf => by
              have hfr : f.fresh = false := HNf.out f hf
              unfold F.cln; rw [hfr]; rfl)
            obtain ⟨ao, ca, elv, hcap, _⟩ := HQ9.out.at'
            have HEL := hid elv
            obtain ⟨sl, hsl⟩ : ∃ sl, sl = s.L.length := ⟨_, rfl⟩
            have HLn := hid hsl
            have hsl9 : sl ≤ 9000 := by rw [hsl]; exact HSL.out
            rw [← hsl] at hcap
            have HAc : Hid (AcAt w9 w9 O q r s lv F.cln 0) := ⟨by rw [F.mapT_zero]; exact HQ9.out, Touch.refl _ _⟩
            clear elv hsl
            go_wp2_with fail
            go_loopw [9] (fun iv wy => ∃ j : Nat, iv = .int .i64 (j : Int) ∧ j ≤ sl ∧ Hid (AcAt w9 wy O q r s lv F.cln j)) (fun iv _ => sl - (intOf iv).toNat)
            case atStart => exact ⟨0, rfl, Nat.zero_le _, HAc.out⟩
            case round =>
              obtain ⟨j, rfl, hj, HJ⟩ := hrel
              rename World => wy
              have d4 : wy.cell? ⟨q, 4, none⟩ = some (.slice ao sl ca) := by have c := cellOf HJ.out.q.box 4; rw [HEL.out] at c; rw [HLn.out]; exact c
              by_cases hjl : j < sl
              · have hjz : (j : Int) < (sl : Int) := by omega
                have hj' : j < s.L.length := by rw [← HLn.out]; exact hjl
                have hj2 : j < (F.mapT F.cln s.L j).length := by rw [F.mapT_len]; exact hj'
                obtain ⟨ao', ca', e', _, hat⟩ := HJ.out.q.at'
                obtain ⟨g, ea, hob, hc, hfz⟩ := hat (by show 0 < (F.mapT F.cln s.L j).length; omega)
                have eao : ao = some ⟨g, 0, none⟩ := by
                  have e2 := HEL.out
                  rw [e', ea] at e2
                  simp at e2
                  exact e2.1.symm
                subst eao
                have hf0 : (F.mapT F.cln s.L j)[j]'hj2 = s.L[j] := F.mapT_at hj'
                obtain ⟨f, hf⟩ : ∃ f, f = s.L[j] := ⟨_, rfl⟩
                have e4 : wy.cell? ⟨g, j * 5 + 4, none⟩ = some (.bool f.dirty) := by have c := hc j hj2 4 (by omega); rw [show ({ s with L := F.mapT F.cln s.L j } : F.Po).L[j]'hj2 = f by rw [hf]; exact hf0] at c; exact c
                have f4 := hfz (j * 5 + 4)
                have HSt := hid (show AcAt w9 (wy.setCell ⟨g, j * 5 + 4, none⟩ (.bool false)) O q r s lv F.cln (j + 1) by
                  obtain ⟨q1, t1⟩ := HJ.out.q.store hob hj2 (j := 4) (by omega) (v := .bool false) (f := { f with dirty := false }) (by show (fc ((F.mapT F.cln s.L j)[j]'hj2)).set 4 _ = _; rw [hf0, ← hf]; rfl)
                  refine ⟨?_, HJ.out.touch.trans (t1.mono (fun b _ e => by rw [e]; exact HJ.out.q.ol g hob))⟩
                  rw [F.mapT_next hj', HCl.out s.L[j] (List.getElem_mem hj'), ← hf]
                  exact q1)
                clear hc hat hfz hf hf0 e' ea hob
                go_wp2_with fail
                go_roundw
                case rel => exact ⟨j + 1, by go_num, by omega, HSt.out⟩
                case measure => simp [intOf]; omega
              · have hjz : ¬ (j : Int) < (sl : Int) := by omega
                obtain rfl : j = sl := by omega
                go_wp2_with fail
                go_ret
                rw [HS2.out, HX0.out.1, HX0.out.2]
                have q1 := HJ.out.q
                rw [HLn.out, F.mapT_all] at q1
                have zy := HJ.out.touch.size
                refine ⟨rfl, ⟨lv, q1⟩, O9, HR9.out.touch HJ.out.touch (fun k c c' => ?_), HT9.out.then HJ.out.touch (fun k _ c => .inl c), fun k c => ?_⟩
                · rcases HN9.out k c with c | c
                  · exact HAp.out k c' c
                  · have := HLt.out k (.inl c'); omega
                · rcases HN9.out k c with c | c
                  · exact .inl c
                  · exact .inr ⟨c.1, by omega⟩
          · have hx' : (ez != 0) = true := by simpa using hx
            have HS2 := hid (show F.flS s D = s by rw [HFs.out, HXE.out, if_neg (by rw [← HEz.out]; exact hx)])
            have HX0 := hid (show X.1 = ez ∧ X.2 = E.2 by rw [HXE.out]; exact ⟨HEz.out.symm, rfl⟩)
            clear hx
            go_wp2_with fail
            go_ret
            rw [HS2.out, HX0.out.1, HX0.out.2]
            exact ⟨rfl, ⟨lv, HQ9.out⟩, O9, HR9.out, HT9.out, HN9.out⟩
  · have e1 : F.flX s D = (42, D) := by unfold F.flX; rw [if_neg hq]
    have e2 : F.flS s D = s := by unfold F.flS; rw [e1]; rfl
    rw [e1, e2]
    obtain ⟨zs, hzs⟩ : ∃ zs, zs = F.which s F.isFresh := ⟨_, rfl⟩
    rw [← hzs] at HW1 hq
    have hlz : 0 < zs.length := List.length_pos_iff.2 hq
    obtain ⟨zl, hzl⟩ : ∃ zl, zs.length = zl := ⟨_, rfl⟩
    rw [hzl] at hlz
    have hnz : (0 : Int) < (zl : Int) := by omega
    clear h hr hk hap hlt hg hok hk9 hq e1 e2 hl hn hzs
    go_enter Tryz.func49, Tryz.ntmps49
    go_wp2_with (first
      | (go_at_call 60; refine HW1.out.mono ?_; rintro e w1 ⟨v1, rfl, H1⟩; obtain ⟨a1, k1, rfl, _⟩ := row_get H1.out.1; rw [hzl]))
    go_ret
    exact HSame.out w1 H1.out.2 42
end Go.Proofs.YtjlennpoaefllaaGreatDoor

/- The reference's call Open. -/
namespace Go.Proofs.YtjlennpoaefllaaGreatDoor
open Go.RowKit

set_option maxRecDepth 100000 in
theorem IsRO.head {w : World} {O : Nat → Prop} {r : Nat} {D : dSt} (h : IsRO w O r D) : ∃ g gc, w.cell? ⟨r, 0, none⟩ = some (.slice (some ⟨g, 0, none⟩) D.size.toNat gc) := by
  obtain ⟨hv, wv, hrf, _, _, _⟩ := h
  obtain ⟨g, gc, hhv, _⟩ := hrf.heldAt
  exact ⟨g, gc, by rw [← hhv]; exact cellOf hrf.box 0⟩
set_option maxRecDepth 100000 in
set_option maxHeartbeats 2000000 in
theorem ropen11_bad {w : World} {O : Nat → Prop} {r : Nat} {D : dSt} (h : IsRO w O r D) (hs0 : 0 < D.size) (hsz : D.size ≤ 4096) (fr ct mo : Int) (hb : F.openOk D fr ct mo = false) : Calls Tryz.prog 12 #[Ptr r, .int .i64 fr, .int .i64 ct, .int .i64 mo] w (Tells (.tuple #[.pointer none, .int .i64 2]) w) := by
  obtain ⟨g, gc, c0⟩ := h.head
  obtain ⟨sn, hsn⟩ : ∃ sn, sn = D.size.toNat := ⟨_, rfl⟩
  have hsn2 : D.size = (sn : Int) := by omega
  rw [← hsn] at c0
  have hb' : ¬ (0 ≤ fr ∧ 1 ≤ ct ∧ ct ≤ 4096 ∧ fr + ct ≤ (sn : Int) ∧ 1 ≤ mo ∧ mo ≤ 256) := by rw [← hsn2]; simpa [F.openOk] using hb
  have hn9 : (sn : Int) ≤ 4096 := by omega
  unfold Ptr at *
  clear h hb hsn hsn2 hs0 hsz
  by_cases h1 : fr < 0
  · clear hb'
    go_enter Tryz.func12, Tryz.ntmps12
    go_wp2_with fail
    go_ret2
    exact ⟨rfl, rfl⟩
  by_cases h2 : ct < 1
  · clear hb'
    go_enter Tryz.func12, Tryz.ntmps12
    go_wp2_with fail
    go_ret2
    exact ⟨rfl, rfl⟩
  by_cases h3 : 4096 < ct
  · clear hb'
    go_enter Tryz.func12, Tryz.ntmps12
    go_wp2_with fail
    go_ret2
    exact ⟨rfl, rfl⟩
  have hw : wrap64 ((sn : Int) - ct) = (sn : Int) - ct := by simp [wrap64]; omega
  by_cases h4 : (sn : Int) - ct < fr
  · clear hb'
    go_enter Tryz.func12, Tryz.ntmps12
    go_wp2_with fail
    go_ret2
    exact ⟨rfl, rfl⟩
  by_cases h5 : mo < 1
  · clear hb'
    go_enter Tryz.func12, Tryz.ntmps12
    go_wp2_with fail
    go_ret2
    exact ⟨rfl, rfl⟩
  have h6 : 256 < mo := by omega
  clear hb'
  go_enter Tryz.func12, Tryz.ntmps12
  go_wp2_with fail
  go_ret2
  exact ⟨rfl, rfl⟩
set_option maxRecDepth 100000 in
theorem build_rpool (r : Nat) (fr ct mo : Int) (w : World) : (Instr.build 92 #[(0, .pointer (some ⟨r, 0, none⟩)), (1, .int .i64 fr), (2, .int .i64 ct), (3, .int .i64 mo)]).run Tryz.prog w = .ok (.agg #[.pointer (some ⟨r, 0, none⟩), .int .i64 fr, .int .i64 ct, .int .i64 mo, .slice none 0 0]) w := by kernel_rfl
/-- What Open makes. -/
def PROpn (w : World) (r : Nat) (s : F.Po) (e : Ending) (w' : World) : Prop := ∃ q, e = .returned (.tuple #[Ptr q, .int .i64 0]) ∧ Hid (IsQ w' (fun k => w.heap.size ≤ k ∧ k < w'.heap.size) q r s ∧ Adds w w')
set_option maxRecDepth 100000 in
set_option maxHeartbeats 2000000 in
theorem ropen11_ok {w : World} {O : Nat → Prop} {r : Nat} {D : dSt} (h : IsRO w O r D) (hs0 : 0 < D.size) (hsz : D.size ≤ 4096) (fr ct mo : Int) (hb : F.openOk D fr ct mo = true) : Calls Tryz.prog 12 #[Ptr r, .int .i64 fr, .int .i64 ct, .int .i64 mo] w (PROpn w r ⟨fr, ct, mo, []⟩) := by
  obtain ⟨g, gc, c0⟩ := h.head
  obtain ⟨sn, hsn⟩ : ∃ sn, sn = D.size.toNat := ⟨_, rfl⟩
  have hsn2 : D.size = (sn : Int) := by omega
  rw [← hsn] at c0
  have hb' : (0 ≤ fr ∧ 1 ≤ ct ∧ ct ≤ 4096 ∧ fr + ct ≤ (sn : Int) ∧ 1 ≤ mo ∧ mo ≤ 256) := by rw [← hsn2]; simpa [F.openOk] using hb
  have hn9 : (sn : Int) ≤ 4096 := by omega
  have h1 : ¬ fr < 0 := by omega
  have h2 : ¬ ct < 1 := by omega
  have h3 : ¬ 4096 < ct := by omega
  have hw : wrap64 ((sn : Int) - ct) = (sn : Int) - ct := by simp [wrap64]; omega
  have h4 : ¬ (sn : Int) - ct < fr := by omega
  have h5 : ¬ mo < 1 := by omega
  have h6 : ¬ 256 < mo := by omega
  have hbp := build_rpool
  unfold Ptr at *
  clear h hb hsn hsn2 hs0 hsz hb'
  go_enter Tryz.func12, Tryz.ntmps12
  go_wp2_with fail
  go_ret2
  refine ⟨_, rfl, ⟨.slice none 0 0, heap_alloc_new w _, ?_, ⟨Nat.le_refl _, by simp⟩, fun k hk => (by cases hk)⟩, (Touch.refl _ w).alloc _⟩
  exact World.ownsRow_nil _ _ _ _
end Go.Proofs.YtjlennpoaefllaaGreatDoor

/- The chapter's example: the walk. -/
namespace Go.Proofs.YtjlennpoaefllaaGreatDoor
open Go.RowKit

end Go.Proofs.YtjlennpoaefllaaGreatDoor

/- Spoil; Write where it is refused. -/
namespace Go.Proofs.YtjlennpoaefllaaGreatDoor
open Go.RowKit

end Go.Proofs.YtjlennpoaefllaaGreatDoor

/- A pool and its disk on both sides: the program's and the reference's. -/
namespace Go.Proofs.YtjlennpoaefllaaGreatDoor
open Go.RowKit
/-! ### The program's calls, with what they touch -/
/-- What a call of the program leaves. -/
def PPl2 (w0 w : World) (O OD : Nat → Prop) (p d : Nat) (s : F.Po) (D : dSt) (n k : Nat) (v : Value) (e : Ending) (w' : World) : Prop := e = .returned v ∧ Hid (∃ O' OD', Lp w0 w' O' OD' p d s D n k ∧ Touch (fun j => O j ∨ OD j) w w' ∧ ∀ j, O' j ∨ OD' j → (O j ∨ OD j) ∨ w.heap.size ≤ j)
theorem Lp.touch {w0 w : World} {O OD : Nat → Prop} {p d : Nat} {s : F.Po} {D : dSt} {n k : Nat} {w' : World} {T : Nat → Prop} (h : Lp w0 w O OD p d s D n k) (hT : Touch T w w') (hn : ∀ j, T j → ¬ (O j ∨ OD j) ∧ w0.heap.size ≤ j) : Lp w0 w' O OD p d s D n k :=
  ⟨h.pool.touch hT (fun j q c => (hn j c).1 (.inl q)), h.disk.touch hT (fun j q c => (hn j c).1 (.inr q)), h.ok, h.apart, h.low, fun j q => Nat.lt_of_lt_of_le (h.lt j q) hT.size, h.adds.then hT (fun j hj c => by have := (hn j c).2; omega), h.tab, h.good, h.pok⟩
set_option maxRecDepth 100000 in
theorem Lp.later {w0 w : World} {O OD : Nat → Prop} {p d : Nat} {s : F.Po} {D : dSt} {n k : Nat} {n' k' : Nat} (h : Lp w0 w O OD p d s D n k) (hn : n ≤ n') (hk : k ≤ k') : Lp w0 w O OD p d s D n' k' := by
  obtain ⟨hb, y, G, hp, hy⟩ := h.pool
  exact ⟨⟨hb, y, G, hp, by omega⟩, h.disk, h.ok.mono hk, h.apart, h.low, h.lt, h.adds, h.tab, h.good, h.pok⟩
set_option maxRecDepth 100000 in
theorem lp2_put {w0 w : World} {O OD : Nat → Prop} {p d : Nat} {s : F.Po} {D : dSt} {n k : Nat} (h : Lp w0 w O OD p d s D n k) (hn : n + 1 ≤ 1000000) (no : Int) (a : Option Addr) (bs : List UInt8) (m cap : Nat) (hm : bs.length = m) (hc : m ≤ cap) (hA : At w a bs) :
    Calls Tryz.prog 53 #[Ptr p, .int .i64 no, .slice a m cap] w (PPl2 w0 w O OD p d (F.putS s no bs) D (n + 1) k (.int .i64 (F.putE s no bs : Int))) := by
  refine (bput_any h.pool hn no a bs m cap hm hc hA h.tabs).mono ?_
  rintro e w' ⟨rfl, H⟩
  obtain ⟨O', h1, h2, h3⟩ := H.out
  exact ⟨rfl, O', OD, h.moved h1 h2 h3 (h.good.put no bs) (h.pok.same (F.put_same s no bs) rfl), h2.mono (fun _ _ c => .inl c), fun j c => c.elim (fun c => (h3 j c).elim (fun c => .inl (.inl c)) (fun c => .inr c.1)) (fun c => .inl (.inr c))⟩
set_option maxRecDepth 100000 in
theorem lp2_accept {w0 w : World} {O OD : Nat → Prop} {p d : Nat} {s : F.Po} {D : dSt} {n k : Nat} (h : Lp w0 w O OD p d s D n k) :
    Calls Tryz.prog 44 #[Ptr p] w (PPl2 w0 w O OD p d (F.accS s) D n k (.int .i64 ((F.which s F.isFresh).length : Int))) := by
  refine (baccept_any h.pool (fun j c => h.lt j (.inl c)) (LpE.len ⟨O, OD, h⟩)).mono ?_
  rintro e w' ⟨rfl, H⟩
  obtain ⟨O', h1, h2, h3⟩ := H.out
  exact ⟨rfl, O', OD, h.moved h1 h2 h3 h.good.acc ⟨h.pok.fr0, h.pok.ct1, h.pok.fit, h.pok.size, h.pok.mo1, h.pok.mo2⟩, h2.mono (fun _ _ c => .inl c), fun j c => c.elim (fun c => (h3 j c).elim (fun c => .inl (.inl c)) (fun c => .inr c.1)) (fun c => .inl (.inr c))⟩
set_option maxRecDepth 100000 in
theorem lp2_drop {w0 w : World} {O OD : Nat → Prop} {p d : Nat} {s : F.Po} {D : dSt} {n k : Nat} (h : Lp w0 w O OD p d s D n k) :
    Calls Tryz.prog 46 #[Ptr p] w (PPl2 w0 w O OD p d (F.dropS s) D n k (.int .i64 ((F.which s F.isFresh).length : Int))) := by
  refine (bdrop_any h.pool (fun j c => h.lt j (.inl c)) (LpE.len ⟨O, OD, h⟩)).mono ?_
  rintro e w' ⟨rfl, H⟩
  obtain ⟨O', h1, h2, h3⟩ := H.out
  exact ⟨rfl, O', OD, h.moved h1 h2 h3 h.good.drop ⟨h.pok.fr0, h.pok.ct1, h.pok.fit, h.pok.size, h.pok.mo1, h.pok.mo2⟩, h2.mono (fun _ _ c => .inl c), fun j c => c.elim (fun c => (h3 j c).elim (fun c => .inl (.inl c)) (fun c => .inr c.1)) (fun c => .inl (.inr c))⟩
set_option maxRecDepth 100000 in
theorem lp2_flush {w0 w : World} {O OD : Nat → Prop} {p d : Nat} {s : F.Po} {D : dSt} {n k : Nat} (h : Lp w0 w O OD p d s D n k) (hk9 : k + (F.which s F.isDirty).length ≤ 890) :
    Calls Tryz.prog 48 #[Ptr p] w (PPl2 w0 w O OD p d (F.flS s D) (F.flX s D).2 n (k + (F.which s F.isDirty).length + 1) (.int .i64 (F.flX s D).1)) := by
  have hz0 := h.adds.size
  refine (bflush_any h.pool h.disk h.ok h.apart h.lt h.good h.pok (fun w' hT => h.tab.adds (h.adds.then hT (fun j hj c => by have := h.low j c; omega))) hk9).mono ?_
  rintro e w' ⟨rfl, H⟩
  obtain ⟨h1, O', h2, h3, h4⟩ := H.out
  have hz := h3.size
  refine ⟨rfl, O, O', ⟨h1, h2, fl_ok h.ok, fun j c c' => ?_, fun j c => ?_, fun j c => ?_, h.adds.then h3 (fun j hj c => by have := h.low j c; omega), h.tab, h.good.fl D, h.pok.same (F.fl_same s D) (fl_size s D)⟩, h3, fun j c => c.elim (fun c => .inl (.inl c)) (fun c => (h4 j c).elim (fun c => .inl (.inr c)) (fun c => .inr c.1))⟩
  · rcases h4 j c' with c' | c'
    · exact h.apart j c c'
    · have := h.lt j (.inl c); omega
  · rcases c with c | c
    · exact h.low j (.inl c)
    · rcases h4 j c with c | c
      · exact h.low j (.inr c)
      · omega
  · rcases c with c | c
    · exact Nat.lt_of_lt_of_le (h.lt j (.inl c)) hz
    · rcases h4 j c with c | c
      · exact Nat.lt_of_lt_of_le (h.lt j (.inr c)) hz
      · exact c.2
/-- The disk alone has moved. -/
theorem PPl2.of_do {w0 w : World} {O OD : Nat → Prop} {p d : Nat} {s : F.Po} {D : dSt} {n k : Nat} {w' : World} {D2 : dSt} {k2 : Nat} (h : Lp w0 w O OD p d s D n k) (hT : Touch OD w w') (hd : IsDO w' OD d D2) (hk : DOk D2 k2) (hz : D2.size = D.size) (v : Value) : PPl2 w0 w O OD p d s D2 n k2 v (.returned v) w' :=
  ⟨rfl, O, OD, ⟨h.pool.touch hT (fun j q c => h.apart j q c), hd, hk, h.apart, h.low, fun j q => Nat.lt_of_lt_of_le (h.lt j q) hT.size, h.adds.then hT (fun j hj c => by have := h.low j (.inr c); omega), h.tab, h.good, h.pok.same ⟨rfl, rfl, rfl⟩ hz⟩, hT.mono (fun _ _ c => .inr c), fun _ c => .inl c⟩
set_option maxRecDepth 100000 in
theorem cutD_ok {D : dSt} {k : Nat} (h : DOk D k) (z : Int) (hz : z ≤ 9223372036854775807) : DOk (cutD D z) k ∧ (cutD D z).size = D.size := by
  unfold cutD
  split
  · refine ⟨⟨h.waits, h.steps0, h.steps1, ?_, ?_, h.size⟩, rfl⟩
    · show -1 ≤ if D.left = 0 then 0 else z
      split <;> omega
    · show (if D.left = 0 then 0 else z) ≤ _
      split <;> omega
  · exact ⟨h, rfl⟩
set_option maxRecDepth 100000 in
theorem lp2_cut {w0 w : World} {O OD : Nat → Prop} {p d : Nat} {s : F.Po} {D : dSt} {n k : Nat} (h : Lp w0 w O OD p d s D n k) (z : Int) (hz : z ≤ 9223372036854775807) : Calls Tryz.prog 50 #[Ptr d, .int .i64 z] w (PPl2 w0 w O OD p d s (cutD D z) n k (.int .i64 (cutE z))) := by
  obtain ⟨hb, wv, hd, h1, h2, h3⟩ := h.disk
  obtain ⟨g1, g2⟩ := cutD_ok h.ok z hz
  have hs := h.ok.size
  by_cases hn : 0 ≤ z
  · rw [cutD, if_pos hn] at g1 g2
    rw [cutD, cutE, if_pos hn, if_pos hn]
    refine (cut_ok 0 d hb wv D z w hd hs hn).mono ?_
    rintro e w' ⟨rfl, hd', hT⟩
    exact PPl2.of_do h (hT.mono (fun k _ c => by subst c; exact h1)) ⟨hb, wv, hd', h1, h2, h3⟩ g1 g2 _
  · rw [cutD, if_neg hn] at g1 g2
    rw [cutD, cutE, if_neg hn, if_neg hn]
    refine (cut_bad d D.size z w (cellOf hd.box 0) hs (by omega)).mono ?_
    rintro e w' ⟨rfl, hw⟩
    rw [hw]
    exact PPl2.of_do h (Touch.refl _ _) h.disk g1 g2 _
/-! ### Both sides -/
/-- A pool p on the disk d, in the states s and D, the reference's q on r, in s' and D'; other blocks X, which are nobody's. -/
structure Pw (w0 w : World) (X : List (Nat × Obj)) (O OD OQ OR : Nat → Prop) (p d q r : Nat) (s s' : F.Po) (D D' : dSt) (n k : Nat) : Prop where
  wl : Lp w0 w O OD p d s D n k
  isq : IsQ w OQ q r s'
  ro : IsRO w OR r D'
  apq : ∀ j, OQ j → ¬ OR j
  ap : ∀ j, O j ∨ OD j → ¬ (OQ j ∨ OR j)
  low : ∀ j, OQ j ∨ OR j → w0.heap.size ≤ j
  lt : ∀ j, OQ j ∨ OR j → j < w.heap.size
  oth : ∀ x ∈ X, w.heap[x.1]? = some x.2 ∧ ¬ ((O x.1 ∨ OD x.1) ∨ OQ x.1 ∨ OR x.1)
def PwE (w0 w : World) (X : List (Nat × Obj)) (p d q r : Nat) (s s' : F.Po) (D D' : dSt) (n k : Nat) : Prop := ∃ O OD OQ OR, Pw w0 w X O OD OQ OR p d q r s s' D D' n k
/-- What a call leaves. -/
def PPw (w0 : World) (X : List (Nat × Obj)) (p d q r : Nat) (s s' : F.Po) (D D' : dSt) (n k : Nat) (v : Value) (e : Ending) (w' : World) : Prop := e = .returned v ∧ Hid (PwE w0 w' X p d q r s s' D D' n k)
theorem Pw.olt {w0 w : World} {X : List (Nat × Obj)} {O OD OQ OR : Nat → Prop} {p d q r : Nat} {s s' : F.Po} {D D' : dSt} {n k : Nat} (h : Pw w0 w X O OD OQ OR p d q r s s' D D' n k) {x : Nat × Obj} (hx : x ∈ X) : x.1 < w.heap.size := (Array.getElem?_eq_some_iff.1 (h.oth x hx).1).1
theorem Pw.adds {w0 w : World} {X : List (Nat × Obj)} {O OD OQ OR : Nat → Prop} {p d q r : Nat} {s s' : F.Po} {D D' : dSt} {n k : Nat} {w' : World} (h : Pw w0 w X O OD OQ OR p d q r s s' D D' n k) (hA : Adds w w') : Pw w0 w' X O OD OQ OR p d q r s s' D D' n k :=
  ⟨h.wl.add hA, h.isq.adds hA, h.ro.adds hA, h.apq, h.ap, h.low, fun j c => Nat.lt_of_lt_of_le (h.lt j c) hA.size, fun x hx => ⟨hA.at' (h.oth x hx).1 id, (h.oth x hx).2⟩⟩
set_option maxRecDepth 100000 in
theorem PwE.adds {w0 w : World} {X : List (Nat × Obj)} {p d q r : Nat} {s s' : F.Po} {D D' : dSt} {n k : Nat} {w' : World} (h : PwE w0 w X p d q r s s' D D' n k) (hA : Adds w w') : PwE w0 w' X p d q r s s' D D' n k := by
  obtain ⟨O, OD, OQ, OR, h⟩ := h
  exact ⟨O, OD, OQ, OR, h.adds hA⟩
set_option maxRecDepth 100000 in
theorem PwE.base {w0 w : World} {X : List (Nat × Obj)} {p d q r : Nat} {s s' : F.Po} {D D' : dSt} {n k : Nat} (h : PwE w0 w X p d q r s s' D D' n k) : Adds w0 w := by
  obtain ⟨O, OD, OQ, OR, h⟩ := h
  exact h.wl.adds
set_option maxRecDepth 100000 in
theorem PwE.facts {w0 w : World} {X : List (Nat × Obj)} {p d q r : Nat} {s s' : F.Po} {D D' : dSt} {n k : Nat} (h : PwE w0 w X p d q r s s' D D' n k) : F.Good s ∧ POk s D ∧ DOk D k ∧ Tab w0 := by
  obtain ⟨O, OD, OQ, OR, h⟩ := h
  exact ⟨h.wl.good, h.wl.pok, h.wl.ok, h.wl.tab⟩
set_option maxRecDepth 100000 in
theorem PwE.later {w0 w : World} {X : List (Nat × Obj)} {p d q r : Nat} {s s' : F.Po} {D D' : dSt} {n k : Nat} {n' k' : Nat} (h : PwE w0 w X p d q r s s' D D' n k) (hn : n ≤ n') (hk : k ≤ k') : PwE w0 w X p d q r s s' D D' n' k' := by
  obtain ⟨O, OD, OQ, OR, h⟩ := h
  exact ⟨O, OD, OQ, OR, h.wl.later hn hk, h.isq, h.ro, h.apq, h.ap, h.low, h.lt, h.oth⟩
set_option maxRecDepth 100000 in
theorem PwE.other {w0 w : World} {X : List (Nat × Obj)} {p d q r : Nat} {s s' : F.Po} {D D' : dSt} {n k : Nat} (h : PwE w0 w X p d q r s s' D D' n k) (x : Nat × Obj) (hx : x ∈ X) : w.heap[x.1]? = some x.2 := by
  obtain ⟨O, OD, OQ, OR, h⟩ := h
  exact (h.oth x hx).1
set_option maxRecDepth 100000 in
theorem PwE.fewer {w0 w : World} {X : List (Nat × Obj)} {p d q r : Nat} {s s' : F.Po} {D D' : dSt} {n k : Nat} {Y : List (Nat × Obj)} (h : PwE w0 w X p d q r s s' D D' n k) (hY : ∀ x ∈ Y, x ∈ X) : PwE w0 w Y p d q r s s' D D' n k := by
  obtain ⟨O, OD, OQ, OR, h⟩ := h
  exact ⟨O, OD, OQ, OR, h.wl, h.isq, h.ro, h.apq, h.ap, h.low, h.lt, fun x hx => h.oth x (hY x hx)⟩
set_option maxRecDepth 100000 in
/-- A block that was new a while ago is another one. -/
theorem PwE.more {w0 w : World} {X : List (Nat × Obj)} {p d q r : Nat} {s s' : F.Po} {D D' : dSt} {n k : Nat} {w' : World} (h : PwE w0 w X p d q r s s' D D' n k) (hA : Adds w w') (g : Nat) (o : Obj) (hg : w'.heap[g]? = some o) (hn : w.heap.size ≤ g) : PwE w0 w' ((g, o) :: X) p d q r s s' D D' n k := by
  obtain ⟨O, OD, OQ, OR, h⟩ := h
  have h' := h.adds hA
  refine ⟨O, OD, OQ, OR, h'.wl, h'.isq, h'.ro, h'.apq, h'.ap, h'.low, h'.lt, fun x hx => ?_⟩
  rcases List.mem_cons.1 hx with rfl | hx
  · refine ⟨hg, fun c => ?_⟩
    rcases c with c | c
    · have := h.wl.lt g c; omega
    · have := h.lt g c; omega
  · exact h'.oth x hx
set_option maxRecDepth 100000 in
/-- What is nobody's turns. -/
theorem PwE.turn {w0 w : World} {X : List (Nat × Obj)} {p d q r : Nat} {s s' : F.Po} {D D' : dSt} {n k : Nat} {w' : World} {Y : List (Nat × Obj)} (h : PwE w0 w X p d q r s s' D D' n k) {T : Nat → Prop} (hT : Touch T w w') (hn : ∀ j, T j → (∃ x ∈ X, x.1 = j) ∧ w0.heap.size ≤ j) (hY : ∀ y ∈ Y, (∃ x ∈ X, x.1 = y.1) ∧ w'.heap[y.1]? = some y.2) : PwE w0 w' Y p d q r s s' D D' n k := by
  obtain ⟨O, OD, OQ, OR, h⟩ := h
  have key : ∀ j, T j → ¬ ((O j ∨ OD j) ∨ OQ j ∨ OR j) := fun j c => by
    obtain ⟨⟨x, hx, e⟩, _⟩ := hn j c
    rw [← e]
    exact (h.oth x hx).2
  refine ⟨O, OD, OQ, OR, h.wl.touch hT (fun j c => ⟨fun c' => key j c (.inl c'), (hn j c).2⟩), h.isq.touch hT (fun j c c' => key j c' (.inr (.inl c))), h.ro.touch hT (fun j c c' => key j c' (.inr (.inr c))), h.apq, h.ap, h.low, fun j c => Nat.lt_of_lt_of_le (h.lt j c) hT.size, fun y hy => ?_⟩
  obtain ⟨⟨x, hx, e⟩, h2⟩ := hY y hy
  exact ⟨h2, by rw [← e]; exact (h.oth x hx).2⟩
set_option maxRecDepth 100000 in
/-- The program's side has moved. -/
theorem Pw.prog0 {w0 w : World} {X : List (Nat × Obj)} {O OD OQ OR : Nat → Prop} {p d q r : Nat} {s s' : F.Po} {D D' : dSt} {n k : Nat} {w' : World} {O' OD' : Nat → Prop} {s2 : F.Po} {D2 : dSt} {n2 k2 : Nat} (h : Pw w0 w X O OD OQ OR p d q r s s' D D' n k) (h1 : Lp w0 w' O' OD' p d s2 D2 n2 k2) (h2 : Touch (fun j => O j ∨ OD j) w w') (key : ∀ j, O' j ∨ OD' j → (O j ∨ OD j) ∨ w.heap.size ≤ j) : Pw w0 w' X O' OD' OQ OR p d q r s2 s' D2 D' n2 k2 := by
  have hz := h2.size
  refine ⟨h1, h.isq.touch h2 (fun j c c' => h.ap j c' (.inl c)), h.ro.touch h2 (fun j c c' => h.ap j c' (.inr c)), h.apq, fun j c c' => ?_, h.low, fun j c => Nat.lt_of_lt_of_le (h.lt j c) hz, fun x hx => ?_⟩
  · rcases key j c with c | c
    · exact h.ap j c c'
    · have := h.lt j c'; omega
  · have hl := h.olt hx
    refine ⟨h2.at' (h.oth x hx).1 (fun c => (h.oth x hx).2 (.inl c)), fun c => ?_⟩
    rcases c with c | c
    · rcases key _ c with c | c
      · exact (h.oth x hx).2 (.inl c)
      · omega
    · exact (h.oth x hx).2 (.inr c)
set_option maxRecDepth 100000 in
theorem Pw.prog {w0 w : World} {X : List (Nat × Obj)} {O OD OQ OR : Nat → Prop} {p d q r : Nat} {s s' : F.Po} {D D' : dSt} {n k : Nat} {w' : World} {s2 : F.Po} {D2 : dSt} {n2 k2 : Nat} {v : Value} {e : Ending} (h : Pw w0 w X O OD OQ OR p d q r s s' D D' n k) (hp : PPl2 w0 w O OD p d s2 D2 n2 k2 v e w') : PPw w0 X p d q r s2 s' D2 D' n2 k2 v e w' := by
  obtain ⟨he, hh⟩ := hp
  obtain ⟨O', OD', h1, h2, h3⟩ := hh.out
  exact ⟨he, O', OD', OQ, OR, h.prog0 h1 h2 h3⟩
set_option maxRecDepth 100000 in
/-- The reference's side has moved. -/
theorem Pw.refs {w0 w : World} {X : List (Nat × Obj)} {O OD OQ OR : Nat → Prop} {p d q r : Nat} {s s' : F.Po} {D D' : dSt} {n k : Nat} {w' : World} {OQ' OR' : Nat → Prop} {s2 : F.Po} {D2 : dSt} (h : Pw w0 w X O OD OQ OR p d q r s s' D D' n k) (hq : IsQ w' OQ' q r s2) (hr : IsRO w' OR' r D2) (ha : ∀ j, OQ' j → ¬ OR' j) (hT : Touch (fun j => OQ j ∨ OR j) w w') (hn : ∀ j, OQ' j ∨ OR' j → (OQ j ∨ OR j) ∨ (w.heap.size ≤ j ∧ j < w'.heap.size)) : Pw w0 w' X O OD OQ' OR' p d q r s s2 D D2 n k := by
  have hz := hT.size
  have hz0 := h.wl.adds.size
  refine ⟨h.wl.touch hT (fun j c => ⟨fun c' => h.ap j c' c, h.low j c⟩), hq, hr, ha, fun j c c' => ?_, fun j c => ?_, fun j c => ?_, fun x hx => ?_⟩
  · rcases hn j c' with d1 | d1
    · exact h.ap j c d1
    · have := h.wl.lt j c; omega
  · rcases hn j c with d1 | d1
    · exact h.low j d1
    · omega
  · rcases hn j c with d1 | d1
    · have := h.lt j d1; omega
    · exact d1.2
  · have hl := h.olt hx
    refine ⟨hT.at' (h.oth x hx).1 (fun c => (h.oth x hx).2 (.inr c)), fun c => ?_⟩
    rcases c with c | c
    · exact (h.oth x hx).2 (.inl c)
    · rcases hn _ c with c | c
      · exact (h.oth x hx).2 (.inr c)
      · omega
set_option maxRecDepth 100000 in
theorem Pw.refq {w0 w : World} {X : List (Nat × Obj)} {O OD OQ OR : Nat → Prop} {p d q r : Nat} {s s' : F.Po} {D D' : dSt} {n k : Nat} {w' : World} {s2 : F.Po} {v : Value} {e : Ending} (h : Pw w0 w X O OD OQ OR p d q r s s' D D' n k) (hp : PQ11 w OQ q r s2 v e w') : PPw w0 X p d q r s s2 D D' n k v e w' := by
  obtain ⟨he, hh⟩ := hp
  obtain ⟨OQ', h1, h2, h3⟩ := hh.out
  refine ⟨he, O, OD, OQ', OR, h.refs h1 (h.ro.touch h2 (fun j c c' => h.apq j c' c)) (fun j c c' => ?_) (h2.mono (fun _ _ c => .inl c)) (fun j c => ?_)⟩
  · rcases h3 j c with c | c
    · exact h.apq j c c'
    · have := h.lt j (.inr c'); omega
  · rcases c with c | c
    · exact (h3 j c).imp .inl id
    · exact .inl (.inr c)
set_option maxRecDepth 100000 in
theorem Pw.reff {w0 w : World} {X : List (Nat × Obj)} {O OD OQ OR : Nat → Prop} {p d q r : Nat} {s s' : F.Po} {D D' : dSt} {n k : Nat} {w' : World} {s2 : F.Po} {D2 : dSt} {z : Int} {e : Ending} (h : Pw w0 w X O OD OQ OR p d q r s s' D D' n k) (hp : PQF w OQ OR q r s2 D2 z e w') : PPw w0 X p d q r s s2 D D2 n k (.int .i64 z) e w' := by
  obtain ⟨he, hh⟩ := hp
  obtain ⟨h1, OR', h2, h3, h4⟩ := hh.out
  refine ⟨he, O, OD, OQ, OR', h.refs h1 h2 (fun j c c' => ?_) h3 (fun j c => ?_)⟩
  · rcases h4 j c' with c' | c'
    · exact h.apq j c c'
    · have := h.lt j (.inl c); omega
  · rcases c with c | c
    · exact .inl (.inl c)
    · exact (h4 j c).imp .inr id
set_option maxRecDepth 100000 in
theorem Pw.refd {w0 w : World} {X : List (Nat × Obj)} {O OD OQ OR : Nat → Prop} {p d q r : Nat} {s s' : F.Po} {D D' : dSt} {n k : Nat} {w' : World} {x : Int × dSt} {e : Ending} (h : Pw w0 w X O OD OQ OR p d q r s s' D D' n k) (hp : PRo w OR r x e w') : PPw w0 X p d q r s s' D x.2 n k (.int .i64 x.1) e w' := by
  obtain ⟨he, hh⟩ := hp
  obtain ⟨OR', h1, h2, h3⟩ := hh.out
  refine ⟨he, O, OD, OQ, OR', h.refs (h.isq.touch h2 h.apq) h1 (fun j c c' => ?_) (h2.mono (fun _ _ c => .inr c)) (fun j c => ?_)⟩
  · rcases h3 j c' with d1 | d1
    · exact h.apq j c d1
    · have := h.lt j (.inl c); omega
  · rcases c with c | c
    · exact .inl (.inl c)
    · exact (h3 j c).imp .inr id
/-! ### The calls, each on its side -/
set_option maxRecDepth 100000 in
theorem pw_put {w0 w : World} {X : List (Nat × Obj)} {p d q r : Nat} {s s' : F.Po} {D D' : dSt} {n k : Nat} (h : PwE w0 w X p d q r s s' D D' n k) (hn : n + 1 ≤ 1000000) (no : Int) (a : Option Addr) (bs : List UInt8) (m cap : Nat) (hm : bs.length = m) (hc : m ≤ cap) (hA : At w a bs) : Calls Tryz.prog 53 #[Ptr p, .int .i64 no, .slice a m cap] w (PPw w0 X p d q r (F.putS s no bs) s' D D' (n + 1) k (.int .i64 (F.putE s no bs : Int))) := by
  obtain ⟨O, OD, OQ, OR, h⟩ := h
  exact (lp2_put h.wl hn no a bs m cap hm hc hA).mono (fun _ _ x => h.prog x)
set_option maxRecDepth 100000 in
theorem pq_put {w0 w : World} {X : List (Nat × Obj)} {p d q r : Nat} {s s' : F.Po} {D D' : dSt} {n k : Nat} (h : PwE w0 w X p d q r s s' D D' n k) (hg : F.Good s') (hmo : s'.mo ≤ 256) (hnl : F.Nil s') (no : Int) (a : Option Addr) (bs : List UInt8) (m cap : Nat) (hm : bs.length = m) (hc : m ≤ cap) (hA : At w a bs) : Calls Tryz.prog 54 #[Ptr q, .int .i64 no, .slice a m cap] w (PPw w0 X p d q r s (F.putS s' no bs) D D' n k (.int .i64 (F.putE s' no bs : Int))) := by
  obtain ⟨O, OD, OQ, OR, h⟩ := h
  exact (qput_any h.isq (fun j c => h.lt j (.inl c)) hg hmo hnl no a bs m cap hm hc hA).mono (fun _ _ x => h.refq x)
set_option maxRecDepth 100000 in
theorem pw_accept {w0 w : World} {X : List (Nat × Obj)} {p d q r : Nat} {s s' : F.Po} {D D' : dSt} {n k : Nat} (h : PwE w0 w X p d q r s s' D D' n k) : Calls Tryz.prog 44 #[Ptr p] w (PPw w0 X p d q r (F.accS s) s' D D' n k (.int .i64 ((F.which s F.isFresh).length : Int))) := by
  obtain ⟨O, OD, OQ, OR, h⟩ := h
  exact (lp2_accept h.wl).mono (fun _ _ x => h.prog x)
set_option maxRecDepth 100000 in
theorem pq_accept {w0 w : World} {X : List (Nat × Obj)} {p d q r : Nat} {s s' : F.Po} {D D' : dSt} {n k : Nat} (h : PwE w0 w X p d q r s s' D D' n k) (hl : s'.L.length ≤ 10000) : Calls Tryz.prog 45 #[Ptr q] w (PPw w0 X p d q r s (F.accS s') D D' n k (.int .i64 ((F.which s' F.isFresh).length : Int))) := by
  obtain ⟨O, OD, OQ, OR, h⟩ := h
  exact (qaccept_any h.isq hl).mono (fun _ _ x => h.refq x)
set_option maxRecDepth 100000 in
theorem pw_drop {w0 w : World} {X : List (Nat × Obj)} {p d q r : Nat} {s s' : F.Po} {D D' : dSt} {n k : Nat} (h : PwE w0 w X p d q r s s' D D' n k) : Calls Tryz.prog 46 #[Ptr p] w (PPw w0 X p d q r (F.dropS s) s' D D' n k (.int .i64 ((F.which s F.isFresh).length : Int))) := by
  obtain ⟨O, OD, OQ, OR, h⟩ := h
  exact (lp2_drop h.wl).mono (fun _ _ x => h.prog x)
set_option maxRecDepth 100000 in
theorem pq_drop {w0 w : World} {X : List (Nat × Obj)} {p d q r : Nat} {s s' : F.Po} {D D' : dSt} {n k : Nat} (h : PwE w0 w X p d q r s s' D D' n k) (hl : s'.L.length ≤ 10000) : Calls Tryz.prog 47 #[Ptr q] w (PPw w0 X p d q r s (F.dropS s') D D' n k (.int .i64 ((F.which s' F.isFresh).length : Int))) := by
  obtain ⟨O, OD, OQ, OR, h⟩ := h
  exact (qDrop_any h.isq hl).mono (fun _ _ x => h.refq x)
set_option maxRecDepth 100000 in
theorem pw_flush {w0 w : World} {X : List (Nat × Obj)} {p d q r : Nat} {s s' : F.Po} {D D' : dSt} {n k : Nat} (h : PwE w0 w X p d q r s s' D D' n k) (hk9 : k + (F.which s F.isDirty).length ≤ 890) : Calls Tryz.prog 48 #[Ptr p] w (PPw w0 X p d q r (F.flS s D) s' (F.flX s D).2 D' n (k + (F.which s F.isDirty).length + 1) (.int .i64 (F.flX s D).1)) := by
  obtain ⟨O, OD, OQ, OR, h⟩ := h
  exact (lp2_flush h.wl hk9).mono (fun _ _ x => h.prog x)
set_option maxRecDepth 100000 in
theorem pq_flush {w0 w : World} {X : List (Nat × Obj)} {p d q r : Nat} {s s' : F.Po} {D D' : dSt} {n k : Nat} {k0 : Nat} (h : PwE w0 w X p d q r s s' D D' n k) (hg : F.Good s') (hok : POk s' D') (hdk : DOk D' k0) (hk9 : k0 + (F.which s' F.isDirty).length ≤ 890) : Calls Tryz.prog 49 #[Ptr q] w (PPw w0 X p d q r s (F.flS s' D') D (F.flX s' D').2 n k (.int .i64 (F.flX s' D').1)) := by
  obtain ⟨O, OD, OQ, OR, h⟩ := h
  exact (qflush_any h.isq h.ro hdk h.apq h.lt hg hok hk9).mono (fun _ _ x => h.reff x)
set_option maxRecDepth 100000 in
theorem pw_cut {w0 w : World} {X : List (Nat × Obj)} {p d q r : Nat} {s s' : F.Po} {D D' : dSt} {n k : Nat} (h : PwE w0 w X p d q r s s' D D' n k) (z : Int) (hz : z ≤ 9223372036854775807) : Calls Tryz.prog 50 #[Ptr d, .int .i64 z] w (PPw w0 X p d q r s s' (cutD D z) D' n k (.int .i64 (cutE z))) := by
  obtain ⟨O, OD, OQ, OR, h⟩ := h
  exact (lp2_cut h.wl z hz).mono (fun _ _ x => h.prog x)
set_option maxRecDepth 100000 in
theorem pq_cut {w0 w : World} {X : List (Nat × Obj)} {p d q r : Nat} {s s' : F.Po} {D D' : dSt} {n k : Nat} (h : PwE w0 w X p d q r s s' D D' n k) (z : Int) : Calls Tryz.prog 51 #[Ptr r, .int .i64 z] w (PPw w0 X p d q r s s' D (cutD D' z) n k (.int .i64 (cutE z))) := by
  obtain ⟨O, OD, OQ, OR, h⟩ := h
  exact (ro_cut h.ro z).mono (fun _ _ x => h.refd x)
set_option maxRecDepth 100000 in
theorem pq_get {w0 w : World} {X : List (Nat × Obj)} {p d q r : Nat} {s s' : F.Po} {D D' : dSt} {n k : Nat} {k0 : Nat} (h : PwE w0 w X p d q r s s' D D' n k) (hdk : DOk D' k0) (hk9 : k0 ≤ 900) (hok : POk s' D') (hg : F.Good s') (no : Int) : Calls Tryz.prog 103 #[Ptr q, .int .i64 no] w (PPw w0 X p d q r s (F.getS s' D' no) D D' n k (.tuple #[Str (F.getB s' D' no), .int .i64 (F.getE s' D' no : Int)])) := by
  obtain ⟨O, OD, OQ, OR, h⟩ := h
  exact (qget_any h.isq (fun j c => h.lt j (.inl c)) h.ro hdk hk9 hok hg no).mono (fun _ _ x => h.refq x)
end Go.Proofs.YtjlennpoaefllaaGreatDoor
