/- Texts put together: NCopied, NRemove. -/
import Derived.Test.YtplppnngmlljnaaQ13
/- A node of its own memory, as the law copies it. -/
namespace Go.Proofs.Ytplppnngmlljnaa
open Go.RowKit

set_option maxRecDepth 100000 in
set_option maxHeartbeats 8000000 in
theorem copied_big (x : NM) (w : World) {Q : Nat → Prop} (h : NQ w Q x) (hs : NBig x) : Calls Try.prog 10 #[x.val] w (PNode w x.nd) := by
  obtain ⟨leaf, ka, kc, ks, g, ia, ic, zs⟩ := x
  have HQ := hid h
  have HVs := hid hs.vl
  have k9 : ks.length * 16 ≤ 140737488355328 := hs.k
  have v9 : g.l.length * 24 ≤ 140737488355328 := hs.v
  have z9 : zs.length * 8 ≤ 140737488355328 := hs.i
  clear h hs
  obtain ⟨kn, hkn⟩ : ∃ kn, kn = ks.length := ⟨_, rfl⟩
  obtain ⟨vn, hvn⟩ : ∃ vn, vn = g.l.length := ⟨_, rfl⟩
  obtain ⟨zn, hzn⟩ : ∃ zn, zn = zs.length := ⟨_, rfl⟩
  obtain ⟨ga, hga⟩ : ∃ a, a = g.a := ⟨_, rfl⟩
  unfold NM.val NM.kv NM.vv NM.iv
  simp only [← hkn, ← hvn, ← hzn, ← hga] at k9 v9 z9 ⊢
  have HKn := hid hkn
  have HVn := hid hvn
  have HZn := hid hzn
  have HGa := hid hga
  have HK9 := hid k9
  have HZ9 := hid z9
  have HV9 := hid v9
  clear hkn hvn hzn hga k9 v9 z9
  obtain ⟨N0, hN0⟩ : ∃ N0, N0 = w.heap.size := ⟨_, rfl⟩
  obtain ⟨N1, hN1⟩ : ∃ N1, N1 = N0 + 1 := ⟨_, rfl⟩
  obtain ⟨w2, hw2⟩ : ∃ w2, w2 = (w.alloc (.cells #[.bool leaf, .slice ka kn kc, .slice ga vn g.cap, .slice ia zn ic] 26)).alloc NZ := ⟨_, rfl⟩
  have HA2 := hid (show Adds w w2 by rw [hw2]; exact ((Touch.refl _ w).alloc _).alloc _)
  have HB0 := hid (show w2.heap[N0]? = some (.cells #[.bool leaf, .slice ka kn kc, .slice ga vn g.cap, .slice ia zn ic] 26) by rw [hw2, hN0]; exact box_adds (heap_alloc_new w _) ((Touch.refl _ _).alloc _))
  have HB1 := hid (show w2.heap[N1]? = some NZ by rw [hw2, hN1, hN0, ← show (w.alloc (.cells #[.bool leaf, .slice ka kn kc, .slice ga vn g.cap, .slice ia zn ic] 26)).heap.size = w.heap.size + 1 by simp]; exact heap_alloc_new _ _)
  have HL := hid (show w.heap.size ≤ N1 by omega)
  obtain ⟨gc, hgc⟩ : ∃ c, c = g.cap := ⟨_, rfl⟩
  rw [← hgc] at HB0
  have HGc := hid hgc
  go_enter Try.func10, Try.ntmps10
  go_upto_region 1 with fail
  rw [← hw2, ← hN0, ← hN1]
  rw [← hgc]
  clear hw2 hN0 hN1 hgc
  go_cut [3] (fun p wx => ∃ N5 a5 c5 a9 c9, p = .pointer (some ⟨N5, 0, none⟩) ∧ Hid (Pc w2 wx N5 leaf ⟨leaf, a5, c5, ks, ⟨none, 0, []⟩, a9, c9, zs⟩))
  case first =>
    obtain ⟨x0, x1, _, x3⟩ := box_cells HB0.out
    have X0 := hid x0
    have X1 := hid x1
    have X3 := hid x3
    clear x0 x1 x3
    refine Pe_begin (S := fun W : World => Adds w2 W) (X := 12) (by kernel_rfl) ?_
    have hS : (fun W : World => Adds w2 W) w2.drew := adds_dr w2
    refine Pe_put (i := 0) 6 (v := .pointer (some ⟨N0, 0, none⟩)) rfl rfl (by kernel_rfl) (by kernel_rfl) (by kernel_rfl) (by kernel_rfl) (fun _ _ _ h => h) (Or.inl ⟨by rfl, fun w' hw' => ?_⟩) hS ?_
    · go_simp
    simp only [Act.put, List.setIfInBounds_toArray, List.set_cons_zero, List.set_cons_succ]
    refine Pe_put (i := 1) 7 (v := .bool leaf) rfl rfl (by kernel_rfl) (by kernel_rfl) (by kernel_rfl) (by kernel_rfl) (fun _ _ _ h => h) (Or.inl ⟨by rfl, fun w' hw' => ?_⟩) hS ?_
    · (have c := below_adds hw' X0.out; clear hw'; go_simp)
    simp only [Act.put, List.setIfInBounds_toArray, List.set_cons_zero, List.set_cons_succ]
    refine Pe_put (i := 3) 9 (v := .pointer (some ⟨N0, 1, none⟩)) rfl rfl (by kernel_rfl) (by kernel_rfl) (by kernel_rfl) (by kernel_rfl) (fun _ _ _ h => h) (Or.inl ⟨by rfl, fun w' hw' => ?_⟩) hS ?_
    · go_simp
    simp only [Act.put, List.setIfInBounds_toArray, List.set_cons_zero, List.set_cons_succ]
    refine Pe_put (i := 4) 10 (v := .slice ka kn kc) rfl rfl (by kernel_rfl) (by kernel_rfl) (by kernel_rfl) (by kernel_rfl) (fun _ _ _ h => h) (Or.inl ⟨by rfl, fun w' hw' => ?_⟩) hS ?_
    · (have c := below_adds hw' X1.out; clear hw'; go_simp)
    simp only [Act.put, List.setIfInBounds_toArray, List.set_cons_zero, List.set_cons_succ]
    refine Pe_put (i := 7) 13 (v := .pointer (some ⟨N0, 3, none⟩)) rfl rfl (by kernel_rfl) (by kernel_rfl) (by kernel_rfl) (by kernel_rfl) (fun _ _ _ h => h) (Or.inl ⟨by rfl, fun w' hw' => ?_⟩) hS ?_
    · go_simp
    simp only [Act.put, List.setIfInBounds_toArray, List.set_cons_zero, List.set_cons_succ]
    refine Pe_put (i := 8) 14 (v := .slice ia zn ic) rfl rfl (by kernel_rfl) (by kernel_rfl) (by kernel_rfl) (by kernel_rfl) (fun _ _ _ h => h) (Or.inl ⟨by rfl, fun w' hw' => ?_⟩) hS ?_
    · (have c := below_adds hw' X3.out; clear hw'; go_simp)
    simp only [Act.put, List.setIfInBounds_toArray, List.set_cons_zero, List.set_cons_succ]
    clear X0 X1 X3
    obtain ⟨W0, hW0⟩ : ∃ W, W = w2.drew := ⟨_, rfl⟩
    rw [← hW0] at hS ⊢
    clear hW0
    refine Pe_all (rs := [2, 6, 11]) (by kernel_rfl) (by simp) (fun jj hj => ?_)
    simp only [List.mem_cons, List.not_mem_nil, or_false] at hj
    rcases hj with rfl | rfl | rfl
    · refine EO_value 8 (v := .slice (some ⟨W0.heap.size, 0, none⟩) 0 0) (w' := W0.alloc (.cells #[] 9)) rfl rfl (by rfl) (by go_simp) (Touch.alloc hS _) ?_
      simp only [Act.put, List.setIfInBounds_toArray, List.set_cons_zero, List.set_cons_succ]
      obtain ⟨g2, hg2⟩ : ∃ g, g = W0.heap.size := ⟨_, rfl⟩
      obtain ⟨W1, hW1⟩ : ∃ W, W = W0.alloc (.cells #[] 9) := ⟨_, rfl⟩
      have hA : Adds W0 W1 := by rw [hW1]; exact (Touch.refl _ _).alloc _
      have F2 := hid (show W1.heap[g2]? = some (.cells #[] 9) by rw [hW1, hg2]; exact heap_alloc_new _ _)
      have HG2 := hid (show w2.heap.size ≤ g2 by rw [hg2]; exact hS.size)
      rw [← hg2, ← hW1]
      replace hS : (fun W : World => Adds w2 W) W1 := Touch.trans hS hA
      clear hA hg2 hW1
      refine Pe_all (rs := [5, 6, 11]) (by kernel_rfl) (by simp) (fun jj hj => ?_)
      simp only [List.mem_cons, List.not_mem_nil, or_false] at hj
      rcases hj with rfl | rfl | rfl
      · obtain ⟨i0, hi, hz0, hz1, hz2⟩ := infoES
        refine EO_do (some 11) rfl rfl rfl (fun K' hK => ?_)
        refine wp_append_lit 22 9 i0 (.string ⟨#[]⟩) 16 Try.underlying22 hi hz0 hz1 hz2 rfl (.tmp 8) (.tmp 10) rfl w2.heap.size g2 HG2.out F2.out rfl ka kn kc (Ss ks) rfl (show (Ss ks).length = kn by rw [len_Ss, HKn.out]) (HQ.out.keys.adds (HA2.out.trans hS)) HQ.out.kn (one_Ss ks) HK9.out (by decide) ?_
        intro a5 c5 W2 r1 hA
        refine hK _ _ (fun _ => Touch.trans hS hA) ?_
        simp only [Act.put, List.setIfInBounds_toArray, List.set_cons_zero, List.set_cons_succ]
        have F5 := hid r1
        replace hS : (fun W : World => Adds w2 W) W2 := Touch.trans hS hA
        replace F2 := hid (box_adds F2.out hA)
        clear hA r1 hi hz0 hz1 hz2
        refine Pe_all (rs := [6, 11]) (by kernel_rfl) (by simp) (fun jj hj => ?_)
        simp only [List.mem_cons, List.not_mem_nil, or_false] at hj
        rcases hj with rfl | rfl
        · refine EO_value 12 (v := .slice (some ⟨W2.heap.size, 0, none⟩) 0 0) (w' := W2.alloc (.cells #[] 3)) rfl rfl (by rfl) (by go_simp) (Touch.alloc hS _) ?_
          simp only [Act.put, List.setIfInBounds_toArray, List.set_cons_zero, List.set_cons_succ]
          obtain ⟨g6, hg6⟩ : ∃ g, g = W2.heap.size := ⟨_, rfl⟩
          obtain ⟨W3, hW3⟩ : ∃ W, W = W2.alloc (.cells #[] 3) := ⟨_, rfl⟩
          have hA : Adds W2 W3 := by rw [hW3]; exact (Touch.refl _ _).alloc _
          have F6 := hid (show W3.heap[g6]? = some (.cells #[] 3) by rw [hW3, hg6]; exact heap_alloc_new _ _)
          have HG6 := hid (show w2.heap.size ≤ g6 by rw [hg6]; exact hS.size)
          rw [← hg6, ← hW3]
          replace hS : (fun W : World => Adds w2 W) W3 := Touch.trans hS hA
          replace F2 := hid (box_adds F2.out hA)
          replace F5 := hid (row_touch F5.out hA (fun _ _ => id))
          clear hA hg6 hW3
          refine Pe_all (rs := [9, 11]) (by kernel_rfl) (by simp) (fun jj hj => ?_)
          simp only [List.mem_cons, List.not_mem_nil, or_false] at hj
          rcases hj with rfl | rfl
          · obtain ⟨i0, hi, hz0, hz1, hz2⟩ := infoEI
            refine EO_do (some 15) rfl rfl rfl (fun K' hK => ?_)
            refine wp_append_lit 24 3 i0 (.int .i64 0) 8 Try.underlying24 hi hz0 hz1 hz2 rfl (.tmp 12) (.tmp 14) rfl w2.heap.size g6 HG6.out F6.out rfl ia zn ic (Is zs) rfl (show (Is zs).length = zn by rw [len_Is, HZn.out]) (HQ.out.kids.adds (HA2.out.trans hS)) HQ.out.inn (one_Is zs) HZ9.out (by decide) ?_
            intro a9 c9 W4 r1 hA
            refine hK _ _ (fun _ => Touch.trans hS hA) ?_
            simp only [Act.put, List.setIfInBounds_toArray, List.set_cons_zero, List.set_cons_succ]
            have F9 := hid r1
            replace hS : (fun W : World => Adds w2 W) W4 := Touch.trans hS hA
            replace F2 := hid (box_adds F2.out hA)
            replace F5 := hid (row_touch F5.out hA (fun _ _ => id))
            replace F6 := hid (box_adds F6.out hA)
            clear hA r1 hi hz0 hz1 hz2
            refine Pe_put (i := 10) 16 (v := .agg #[.bool leaf, .slice a5 kn c5, .slice none 0 0, .slice a9 zn c9]) rfl rfl (by kernel_rfl) (by kernel_rfl) (by kernel_rfl) (by kernel_rfl) (fun _ _ _ h => h) (Or.inl ⟨by rfl, fun w' hw' => ?_⟩) hS ?_
            · go_simp
            simp only [Act.put, List.setIfInBounds_toArray, List.set_cons_zero, List.set_cons_succ]
            refine Pe_all (rs := [11]) (by kernel_rfl) (by simp) (fun jj hj => ?_)
            obtain rfl := List.mem_singleton.1 hj
            refine EO_value 3 (v := .pointer (some ⟨W4.heap.size, 0, none⟩)) (w' := W4.alloc NZ) rfl rfl (by rfl) (by go_simp) (Touch.alloc hS _) ?_
            simp only [Act.put, List.setIfInBounds_toArray, List.set_cons_zero, List.set_cons_succ]
            obtain ⟨g11, hg11⟩ : ∃ g, g = W4.heap.size := ⟨_, rfl⟩
            obtain ⟨W5, hW5⟩ : ∃ W, W = W4.alloc NZ := ⟨_, rfl⟩
            have hA : Adds W4 W5 := by rw [hW5]; exact (Touch.refl _ _).alloc _
            have F11 := hid (show W5.heap[g11]? = some NZ by rw [hW5, hg11]; exact heap_alloc_new _ _)
            have HG11 := hid (show w2.heap.size ≤ g11 by rw [hg11]; exact hS.size)
            rw [← hg11, ← hW5]
            replace hS : (fun W : World => Adds w2 W) W5 := Touch.trans hS hA
            replace F2 := hid (box_adds F2.out hA)
            replace F5 := hid (row_touch F5.out hA (fun _ _ => id))
            replace F6 := hid (box_adds F6.out hA)
            replace F9 := hid (row_touch F9.out hA (fun _ _ => id))
            clear hA hg11 hW5
            refine Pe_do (i := 12) none (by kernel_rfl) rfl rfl rfl (fun K' hK => ?_)
            refine Go.wp_store_row 28 _ _ rfl g11 #[.bool leaf, .slice a5 kn c5, .slice none 0 0, .slice a9 zn c9] rfl rfl 28 _ F11.out (info4 _ _ _ _) rfl (one4 _ _ _ _ _ _ _ _ _ _) ?_
            refine hK _ _ (fun h => absurd rfl h) (Pe_done (by kernel_rfl) ?_ _)
            have HEnd := hid (pc_made (leaf := leaf) (Touch.refl _ w2) hS HG11.out F11.out F5.out F9.out HKn.out HZn.out)
            clear hS
            simp only [Act.put]
            go_wp2
            go_meet
            case rel => exact ⟨g11, a5, c5, a9, c9, rfl, HEnd⟩
          · refine EO_value 3 (v := .pointer (some ⟨W3.heap.size, 0, none⟩)) (w' := W3.alloc NZ) rfl rfl (by rfl) (by go_simp) (Touch.alloc hS _) ?_
            simp only [Act.put, List.setIfInBounds_toArray, List.set_cons_zero, List.set_cons_succ]
            obtain ⟨g11, hg11⟩ : ∃ g, g = W3.heap.size := ⟨_, rfl⟩
            obtain ⟨W4, hW4⟩ : ∃ W, W = W3.alloc NZ := ⟨_, rfl⟩
            have hA : Adds W3 W4 := by rw [hW4]; exact (Touch.refl _ _).alloc _
            have F11 := hid (show W4.heap[g11]? = some NZ by rw [hW4, hg11]; exact heap_alloc_new _ _)
            have HG11 := hid (show w2.heap.size ≤ g11 by rw [hg11]; exact hS.size)
            rw [← hg11, ← hW4]
            replace hS : (fun W : World => Adds w2 W) W4 := Touch.trans hS hA
            replace F2 := hid (box_adds F2.out hA)
            replace F5 := hid (row_touch F5.out hA (fun _ _ => id))
            replace F6 := hid (box_adds F6.out hA)
            clear hA hg11 hW4
            refine Pe_all (rs := [9]) (by kernel_rfl) (by simp) (fun jj hj => ?_)
            obtain rfl := List.mem_singleton.1 hj
            obtain ⟨i0, hi, hz0, hz1, hz2⟩ := infoEI
            refine EO_do (some 15) rfl rfl rfl (fun K' hK => ?_)
            refine wp_append_lit 24 3 i0 (.int .i64 0) 8 Try.underlying24 hi hz0 hz1 hz2 rfl (.tmp 12) (.tmp 14) rfl w2.heap.size g6 HG6.out F6.out rfl ia zn ic (Is zs) rfl (show (Is zs).length = zn by rw [len_Is, HZn.out]) (HQ.out.kids.adds (HA2.out.trans hS)) HQ.out.inn (one_Is zs) HZ9.out (by decide) ?_
            intro a9 c9 W5 r1 hA
            refine hK _ _ (fun _ => Touch.trans hS hA) ?_
            simp only [Act.put, List.setIfInBounds_toArray, List.set_cons_zero, List.set_cons_succ]
            have F9 := hid r1
            replace hS : (fun W : World => Adds w2 W) W5 := Touch.trans hS hA
            replace F2 := hid (box_adds F2.out hA)
            replace F5 := hid (row_touch F5.out hA (fun _ _ => id))
            replace F6 := hid (box_adds F6.out hA)
            replace F11 := hid (box_adds F11.out hA)
            clear hA r1 hi hz0 hz1 hz2
            refine Pe_put (i := 10) 16 (v := .agg #[.bool leaf, .slice a5 kn c5, .slice none 0 0, .slice a9 zn c9]) rfl rfl (by kernel_rfl) (by kernel_rfl) (by kernel_rfl) (by kernel_rfl) (fun _ _ _ h => h) (Or.inl ⟨by rfl, fun w' hw' => ?_⟩) hS ?_
            · go_simp
            simp only [Act.put, List.setIfInBounds_toArray, List.set_cons_zero, List.set_cons_succ]
            refine Pe_do (i := 12) none (by kernel_rfl) rfl rfl rfl (fun K' hK => ?_)
            refine Go.wp_store_row 28 _ _ rfl g11 #[.bool leaf, .slice a5 kn c5, .slice none 0 0, .slice a9 zn c9] rfl rfl 28 _ F11.out (info4 _ _ _ _) rfl (one4 _ _ _ _ _ _ _ _ _ _) ?_
            refine hK _ _ (fun h => absurd rfl h) (Pe_done (by kernel_rfl) ?_ _)
            have HEnd := hid (pc_made (leaf := leaf) (Touch.refl _ w2) hS HG11.out F11.out F5.out F9.out HKn.out HZn.out)
            clear hS
            simp only [Act.put]
            go_wp2
            go_meet
            case rel => exact ⟨g11, a5, c5, a9, c9, rfl, HEnd⟩
        · refine EO_value 3 (v := .pointer (some ⟨W2.heap.size, 0, none⟩)) (w' := W2.alloc NZ) rfl rfl (by rfl) (by go_simp) (Touch.alloc hS _) ?_
          simp only [Act.put, List.setIfInBounds_toArray, List.set_cons_zero, List.set_cons_succ]
          obtain ⟨g11, hg11⟩ : ∃ g, g = W2.heap.size := ⟨_, rfl⟩
          obtain ⟨W3, hW3⟩ : ∃ W, W = W2.alloc NZ := ⟨_, rfl⟩
          have hA : Adds W2 W3 := by rw [hW3]; exact (Touch.refl _ _).alloc _
          have F11 := hid (show W3.heap[g11]? = some NZ by rw [hW3, hg11]; exact heap_alloc_new _ _)
          have HG11 := hid (show w2.heap.size ≤ g11 by rw [hg11]; exact hS.size)
          rw [← hg11, ← hW3]
          replace hS : (fun W : World => Adds w2 W) W3 := Touch.trans hS hA
          replace F2 := hid (box_adds F2.out hA)
          replace F5 := hid (row_touch F5.out hA (fun _ _ => id))
          clear hA hg11 hW3
          refine Pe_all (rs := [6]) (by kernel_rfl) (by simp) (fun jj hj => ?_)
          obtain rfl := List.mem_singleton.1 hj
          refine EO_value 12 (v := .slice (some ⟨W3.heap.size, 0, none⟩) 0 0) (w' := W3.alloc (.cells #[] 3)) rfl rfl (by rfl) (by go_simp) (Touch.alloc hS _) ?_
          simp only [Act.put, List.setIfInBounds_toArray, List.set_cons_zero, List.set_cons_succ]
          obtain ⟨g6, hg6⟩ : ∃ g, g = W3.heap.size := ⟨_, rfl⟩
          obtain ⟨W4, hW4⟩ : ∃ W, W = W3.alloc (.cells #[] 3) := ⟨_, rfl⟩
          have hA : Adds W3 W4 := by rw [hW4]; exact (Touch.refl _ _).alloc _
          have F6 := hid (show W4.heap[g6]? = some (.cells #[] 3) by rw [hW4, hg6]; exact heap_alloc_new _ _)
          have HG6 := hid (show w2.heap.size ≤ g6 by rw [hg6]; exact hS.size)
          rw [← hg6, ← hW4]
          replace hS : (fun W : World => Adds w2 W) W4 := Touch.trans hS hA
          replace F2 := hid (box_adds F2.out hA)
          replace F5 := hid (row_touch F5.out hA (fun _ _ => id))
          replace F11 := hid (box_adds F11.out hA)
          clear hA hg6 hW4
          refine Pe_all (rs := [9]) (by kernel_rfl) (by simp) (fun jj hj => ?_)
          obtain rfl := List.mem_singleton.1 hj
          obtain ⟨i0, hi, hz0, hz1, hz2⟩ := infoEI
          refine EO_do (some 15) rfl rfl rfl (fun K' hK => ?_)
          refine wp_append_lit 24 3 i0 (.int .i64 0) 8 Try.underlying24 hi hz0 hz1 hz2 rfl (.tmp 12) (.tmp 14) rfl w2.heap.size g6 HG6.out F6.out rfl ia zn ic (Is zs) rfl (show (Is zs).length = zn by rw [len_Is, HZn.out]) (HQ.out.kids.adds (HA2.out.trans hS)) HQ.out.inn (one_Is zs) HZ9.out (by decide) ?_
          intro a9 c9 W5 r1 hA
          refine hK _ _ (fun _ => Touch.trans hS hA) ?_
          simp only [Act.put, List.setIfInBounds_toArray, List.set_cons_zero, List.set_cons_succ]
          have F9 := hid r1
          replace hS : (fun W : World => Adds w2 W) W5 := Touch.trans hS hA
          replace F2 := hid (box_adds F2.out hA)
          replace F5 := hid (row_touch F5.out hA (fun _ _ => id))
          replace F11 := hid (box_adds F11.out hA)
          replace F6 := hid (box_adds F6.out hA)
          clear hA r1 hi hz0 hz1 hz2
          refine Pe_put (i := 10) 16 (v := .agg #[.bool leaf, .slice a5 kn c5, .slice none 0 0, .slice a9 zn c9]) rfl rfl (by kernel_rfl) (by kernel_rfl) (by kernel_rfl) (by kernel_rfl) (fun _ _ _ h => h) (Or.inl ⟨by rfl, fun w' hw' => ?_⟩) hS ?_
          · go_simp
          simp only [Act.put, List.setIfInBounds_toArray, List.set_cons_zero, List.set_cons_succ]
          refine Pe_do (i := 12) none (by kernel_rfl) rfl rfl rfl (fun K' hK => ?_)
          refine Go.wp_store_row 28 _ _ rfl g11 #[.bool leaf, .slice a5 kn c5, .slice none 0 0, .slice a9 zn c9] rfl rfl 28 _ F11.out (info4 _ _ _ _) rfl (one4 _ _ _ _ _ _ _ _ _ _) ?_
          refine hK _ _ (fun h => absurd rfl h) (Pe_done (by kernel_rfl) ?_ _)
          have HEnd := hid (pc_made (leaf := leaf) (Touch.refl _ w2) hS HG11.out F11.out F5.out F9.out HKn.out HZn.out)
          clear hS
          simp only [Act.put]
          go_wp2
          go_meet
          case rel => exact ⟨g11, a5, c5, a9, c9, rfl, HEnd⟩
      · refine EO_value 12 (v := .slice (some ⟨W1.heap.size, 0, none⟩) 0 0) (w' := W1.alloc (.cells #[] 3)) rfl rfl (by rfl) (by go_simp) (Touch.alloc hS _) ?_
        simp only [Act.put, List.setIfInBounds_toArray, List.set_cons_zero, List.set_cons_succ]
        obtain ⟨g6, hg6⟩ : ∃ g, g = W1.heap.size := ⟨_, rfl⟩
        obtain ⟨W2, hW2⟩ : ∃ W, W = W1.alloc (.cells #[] 3) := ⟨_, rfl⟩
        have hA : Adds W1 W2 := by rw [hW2]; exact (Touch.refl _ _).alloc _
        have F6 := hid (show W2.heap[g6]? = some (.cells #[] 3) by rw [hW2, hg6]; exact heap_alloc_new _ _)
        have HG6 := hid (show w2.heap.size ≤ g6 by rw [hg6]; exact hS.size)
        rw [← hg6, ← hW2]
        replace hS : (fun W : World => Adds w2 W) W2 := Touch.trans hS hA
        replace F2 := hid (box_adds F2.out hA)
        clear hA hg6 hW2
        refine Pe_all (rs := [5, 11]) (by kernel_rfl) (by simp) (fun jj hj => ?_)
        simp only [List.mem_cons, List.not_mem_nil, or_false] at hj
        rcases hj with rfl | rfl
        · obtain ⟨i0, hi, hz0, hz1, hz2⟩ := infoES
          refine EO_do (some 11) rfl rfl rfl (fun K' hK => ?_)
          refine wp_append_lit 22 9 i0 (.string ⟨#[]⟩) 16 Try.underlying22 hi hz0 hz1 hz2 rfl (.tmp 8) (.tmp 10) rfl w2.heap.size g2 HG2.out F2.out rfl ka kn kc (Ss ks) rfl (show (Ss ks).length = kn by rw [len_Ss, HKn.out]) (HQ.out.keys.adds (HA2.out.trans hS)) HQ.out.kn (one_Ss ks) HK9.out (by decide) ?_
          intro a5 c5 W3 r1 hA
          refine hK _ _ (fun _ => Touch.trans hS hA) ?_
          simp only [Act.put, List.setIfInBounds_toArray, List.set_cons_zero, List.set_cons_succ]
          have F5 := hid r1
          replace hS : (fun W : World => Adds w2 W) W3 := Touch.trans hS hA
          replace F2 := hid (box_adds F2.out hA)
          replace F6 := hid (box_adds F6.out hA)
          clear hA r1 hi hz0 hz1 hz2
          refine Pe_all (rs := [9, 11]) (by kernel_rfl) (by simp) (fun jj hj => ?_)
          simp only [List.mem_cons, List.not_mem_nil, or_false] at hj
          rcases hj with rfl | rfl
          · obtain ⟨i0, hi, hz0, hz1, hz2⟩ := infoEI
            refine EO_do (some 15) rfl rfl rfl (fun K' hK => ?_)
            refine wp_append_lit 24 3 i0 (.int .i64 0) 8 Try.underlying24 hi hz0 hz1 hz2 rfl (.tmp 12) (.tmp 14) rfl w2.heap.size g6 HG6.out F6.out rfl ia zn ic (Is zs) rfl (show (Is zs).length = zn by rw [len_Is, HZn.out]) (HQ.out.kids.adds (HA2.out.trans hS)) HQ.out.inn (one_Is zs) HZ9.out (by decide) ?_
            intro a9 c9 W4 r1 hA
            refine hK _ _ (fun _ => Touch.trans hS hA) ?_
            simp only [Act.put, List.setIfInBounds_toArray, List.set_cons_zero, List.set_cons_succ]
            have F9 := hid r1
            replace hS : (fun W : World => Adds w2 W) W4 := Touch.trans hS hA
            replace F2 := hid (box_adds F2.out hA)
            replace F6 := hid (box_adds F6.out hA)
            replace F5 := hid (row_touch F5.out hA (fun _ _ => id))
            clear hA r1 hi hz0 hz1 hz2
            refine Pe_put (i := 10) 16 (v := .agg #[.bool leaf, .slice a5 kn c5, .slice none 0 0, .slice a9 zn c9]) rfl rfl (by kernel_rfl) (by kernel_rfl) (by kernel_rfl) (by kernel_rfl) (fun _ _ _ h => h) (Or.inl ⟨by rfl, fun w' hw' => ?_⟩) hS ?_
            · go_simp
            simp only [Act.put, List.setIfInBounds_toArray, List.set_cons_zero, List.set_cons_succ]
            refine Pe_all (rs := [11]) (by kernel_rfl) (by simp) (fun jj hj => ?_)
            obtain rfl := List.mem_singleton.1 hj
            refine EO_value 3 (v := .pointer (some ⟨W4.heap.size, 0, none⟩)) (w' := W4.alloc NZ) rfl rfl (by rfl) (by go_simp) (Touch.alloc hS _) ?_
            simp only [Act.put, List.setIfInBounds_toArray, List.set_cons_zero, List.set_cons_succ]
            obtain ⟨g11, hg11⟩ : ∃ g, g = W4.heap.size := ⟨_, rfl⟩
            obtain ⟨W5, hW5⟩ : ∃ W, W = W4.alloc NZ := ⟨_, rfl⟩
            have hA : Adds W4 W5 := by rw [hW5]; exact (Touch.refl _ _).alloc _
            have F11 := hid (show W5.heap[g11]? = some NZ by rw [hW5, hg11]; exact heap_alloc_new _ _)
            have HG11 := hid (show w2.heap.size ≤ g11 by rw [hg11]; exact hS.size)
            rw [← hg11, ← hW5]
            replace hS : (fun W : World => Adds w2 W) W5 := Touch.trans hS hA
            replace F2 := hid (box_adds F2.out hA)
            replace F6 := hid (box_adds F6.out hA)
            replace F5 := hid (row_touch F5.out hA (fun _ _ => id))
            replace F9 := hid (row_touch F9.out hA (fun _ _ => id))
            clear hA hg11 hW5
            refine Pe_do (i := 12) none (by kernel_rfl) rfl rfl rfl (fun K' hK => ?_)
            refine Go.wp_store_row 28 _ _ rfl g11 #[.bool leaf, .slice a5 kn c5, .slice none 0 0, .slice a9 zn c9] rfl rfl 28 _ F11.out (info4 _ _ _ _) rfl (one4 _ _ _ _ _ _ _ _ _ _) ?_
            refine hK _ _ (fun h => absurd rfl h) (Pe_done (by kernel_rfl) ?_ _)
            have HEnd := hid (pc_made (leaf := leaf) (Touch.refl _ w2) hS HG11.out F11.out F5.out F9.out HKn.out HZn.out)
            clear hS
            simp only [Act.put]
            go_wp2
            go_meet
            case rel => exact ⟨g11, a5, c5, a9, c9, rfl, HEnd⟩
          · refine EO_value 3 (v := .pointer (some ⟨W3.heap.size, 0, none⟩)) (w' := W3.alloc NZ) rfl rfl (by rfl) (by go_simp) (Touch.alloc hS _) ?_
            simp only [Act.put, List.setIfInBounds_toArray, List.set_cons_zero, List.set_cons_succ]
            obtain ⟨g11, hg11⟩ : ∃ g, g = W3.heap.size := ⟨_, rfl⟩
            obtain ⟨W4, hW4⟩ : ∃ W, W = W3.alloc NZ := ⟨_, rfl⟩
            have hA : Adds W3 W4 := by rw [hW4]; exact (Touch.refl _ _).alloc _
            have F11 := hid (show W4.heap[g11]? = some NZ by rw [hW4, hg11]; exact heap_alloc_new _ _)
            have HG11 := hid (show w2.heap.size ≤ g11 by rw [hg11]; exact hS.size)
            rw [← hg11, ← hW4]
            replace hS : (fun W : World => Adds w2 W) W4 := Touch.trans hS hA
            replace F2 := hid (box_adds F2.out hA)
            replace F6 := hid (box_adds F6.out hA)
            replace F5 := hid (row_touch F5.out hA (fun _ _ => id))
            clear hA hg11 hW4
            refine Pe_all (rs := [9]) (by kernel_rfl) (by simp) (fun jj hj => ?_)
            obtain rfl := List.mem_singleton.1 hj
            obtain ⟨i0, hi, hz0, hz1, hz2⟩ := infoEI
            refine EO_do (some 15) rfl rfl rfl (fun K' hK => ?_)
            refine wp_append_lit 24 3 i0 (.int .i64 0) 8 Try.underlying24 hi hz0 hz1 hz2 rfl (.tmp 12) (.tmp 14) rfl w2.heap.size g6 HG6.out F6.out rfl ia zn ic (Is zs) rfl (show (Is zs).length = zn by rw [len_Is, HZn.out]) (HQ.out.kids.adds (HA2.out.trans hS)) HQ.out.inn (one_Is zs) HZ9.out (by decide) ?_
            intro a9 c9 W5 r1 hA
            refine hK _ _ (fun _ => Touch.trans hS hA) ?_
            simp only [Act.put, List.setIfInBounds_toArray, List.set_cons_zero, List.set_cons_succ]
            have F9 := hid r1
            replace hS : (fun W : World => Adds w2 W) W5 := Touch.trans hS hA
            replace F2 := hid (box_adds F2.out hA)
            replace F6 := hid (box_adds F6.out hA)
            replace F5 := hid (row_touch F5.out hA (fun _ _ => id))
            replace F11 := hid (box_adds F11.out hA)
            clear hA r1 hi hz0 hz1 hz2
            refine Pe_put (i := 10) 16 (v := .agg #[.bool leaf, .slice a5 kn c5, .slice none 0 0, .slice a9 zn c9]) rfl rfl (by kernel_rfl) (by kernel_rfl) (by kernel_rfl) (by kernel_rfl) (fun _ _ _ h => h) (Or.inl ⟨by rfl, fun w' hw' => ?_⟩) hS ?_
            · go_simp
            simp only [Act.put, List.setIfInBounds_toArray, List.set_cons_zero, List.set_cons_succ]
            refine Pe_do (i := 12) none (by kernel_rfl) rfl rfl rfl (fun K' hK => ?_)
            refine Go.wp_store_row 28 _ _ rfl g11 #[.bool leaf, .slice a5 kn c5, .slice none 0 0, .slice a9 zn c9] rfl rfl 28 _ F11.out (info4 _ _ _ _) rfl (one4 _ _ _ _ _ _ _ _ _ _) ?_
            refine hK _ _ (fun h => absurd rfl h) (Pe_done (by kernel_rfl) ?_ _)
            have HEnd := hid (pc_made (leaf := leaf) (Touch.refl _ w2) hS HG11.out F11.out F5.out F9.out HKn.out HZn.out)
            clear hS
            simp only [Act.put]
            go_wp2
            go_meet
            case rel => exact ⟨g11, a5, c5, a9, c9, rfl, HEnd⟩
        · refine EO_value 3 (v := .pointer (some ⟨W2.heap.size, 0, none⟩)) (w' := W2.alloc NZ) rfl rfl (by rfl) (by go_simp) (Touch.alloc hS _) ?_
          simp only [Act.put, List.setIfInBounds_toArray, List.set_cons_zero, List.set_cons_succ]
          obtain ⟨g11, hg11⟩ : ∃ g, g = W2.heap.size := ⟨_, rfl⟩
          obtain ⟨W3, hW3⟩ : ∃ W, W = W2.alloc NZ := ⟨_, rfl⟩
          have hA : Adds W2 W3 := by rw [hW3]; exact (Touch.refl _ _).alloc _
          have F11 := hid (show W3.heap[g11]? = some NZ by rw [hW3, hg11]; exact heap_alloc_new _ _)
          have HG11 := hid (show w2.heap.size ≤ g11 by rw [hg11]; exact hS.size)
          rw [← hg11, ← hW3]
          replace hS : (fun W : World => Adds w2 W) W3 := Touch.trans hS hA
          replace F2 := hid (box_adds F2.out hA)
          replace F6 := hid (box_adds F6.out hA)
          clear hA hg11 hW3
          refine Pe_all (rs := [5]) (by kernel_rfl) (by simp) (fun jj hj => ?_)
          obtain rfl := List.mem_singleton.1 hj
          obtain ⟨i0, hi, hz0, hz1, hz2⟩ := infoES
          refine EO_do (some 11) rfl rfl rfl (fun K' hK => ?_)
          refine wp_append_lit 22 9 i0 (.string ⟨#[]⟩) 16 Try.underlying22 hi hz0 hz1 hz2 rfl (.tmp 8) (.tmp 10) rfl w2.heap.size g2 HG2.out F2.out rfl ka kn kc (Ss ks) rfl (show (Ss ks).length = kn by rw [len_Ss, HKn.out]) (HQ.out.keys.adds (HA2.out.trans hS)) HQ.out.kn (one_Ss ks) HK9.out (by decide) ?_
          intro a5 c5 W4 r1 hA
          refine hK _ _ (fun _ => Touch.trans hS hA) ?_
          simp only [Act.put, List.setIfInBounds_toArray, List.set_cons_zero, List.set_cons_succ]
          have F5 := hid r1
          replace hS : (fun W : World => Adds w2 W) W4 := Touch.trans hS hA
          replace F2 := hid (box_adds F2.out hA)
          replace F6 := hid (box_adds F6.out hA)
          replace F11 := hid (box_adds F11.out hA)
          clear hA r1 hi hz0 hz1 hz2
          refine Pe_all (rs := [9]) (by kernel_rfl) (by simp) (fun jj hj => ?_)
          obtain rfl := List.mem_singleton.1 hj
          obtain ⟨i0, hi, hz0, hz1, hz2⟩ := infoEI
          refine EO_do (some 15) rfl rfl rfl (fun K' hK => ?_)
          refine wp_append_lit 24 3 i0 (.int .i64 0) 8 Try.underlying24 hi hz0 hz1 hz2 rfl (.tmp 12) (.tmp 14) rfl w2.heap.size g6 HG6.out F6.out rfl ia zn ic (Is zs) rfl (show (Is zs).length = zn by rw [len_Is, HZn.out]) (HQ.out.kids.adds (HA2.out.trans hS)) HQ.out.inn (one_Is zs) HZ9.out (by decide) ?_
          intro a9 c9 W5 r1 hA
          refine hK _ _ (fun _ => Touch.trans hS hA) ?_
          simp only [Act.put, List.setIfInBounds_toArray, List.set_cons_zero, List.set_cons_succ]
          have F9 := hid r1
          replace hS : (fun W : World => Adds w2 W) W5 := Touch.trans hS hA
          replace F2 := hid (box_adds F2.out hA)
          replace F6 := hid (box_adds F6.out hA)
          replace F11 := hid (box_adds F11.out hA)
          replace F5 := hid (row_touch F5.out hA (fun _ _ => id))
          clear hA r1 hi hz0 hz1 hz2
          refine Pe_put (i := 10) 16 (v := .agg #[.bool leaf, .slice a5 kn c5, .slice none 0 0, .slice a9 zn c9]) rfl rfl (by kernel_rfl) (by kernel_rfl) (by kernel_rfl) (by kernel_rfl) (fun _ _ _ h => h) (Or.inl ⟨by rfl, fun w' hw' => ?_⟩) hS ?_
          · go_simp
          simp only [Act.put, List.setIfInBounds_toArray, List.set_cons_zero, List.set_cons_succ]
          refine Pe_do (i := 12) none (by kernel_rfl) rfl rfl rfl (fun K' hK => ?_)
          refine Go.wp_store_row 28 _ _ rfl g11 #[.bool leaf, .slice a5 kn c5, .slice none 0 0, .slice a9 zn c9] rfl rfl 28 _ F11.out (info4 _ _ _ _) rfl (one4 _ _ _ _ _ _ _ _ _ _) ?_
          refine hK _ _ (fun h => absurd rfl h) (Pe_done (by kernel_rfl) ?_ _)
          have HEnd := hid (pc_made (leaf := leaf) (Touch.refl _ w2) hS HG11.out F11.out F5.out F9.out HKn.out HZn.out)
          clear hS
          simp only [Act.put]
          go_wp2
          go_meet
          case rel => exact ⟨g11, a5, c5, a9, c9, rfl, HEnd⟩
      · refine EO_value 3 (v := .pointer (some ⟨W1.heap.size, 0, none⟩)) (w' := W1.alloc NZ) rfl rfl (by rfl) (by go_simp) (Touch.alloc hS _) ?_
        simp only [Act.put, List.setIfInBounds_toArray, List.set_cons_zero, List.set_cons_succ]
        obtain ⟨g11, hg11⟩ : ∃ g, g = W1.heap.size := ⟨_, rfl⟩
        obtain ⟨W2, hW2⟩ : ∃ W, W = W1.alloc NZ := ⟨_, rfl⟩
        have hA : Adds W1 W2 := by rw [hW2]; exact (Touch.refl _ _).alloc _
        have F11 := hid (show W2.heap[g11]? = some NZ by rw [hW2, hg11]; exact heap_alloc_new _ _)
        have HG11 := hid (show w2.heap.size ≤ g11 by rw [hg11]; exact hS.size)
        rw [← hg11, ← hW2]
        replace hS : (fun W : World => Adds w2 W) W2 := Touch.trans hS hA
        replace F2 := hid (box_adds F2.out hA)
        clear hA hg11 hW2
        refine Pe_all (rs := [5, 6]) (by kernel_rfl) (by simp) (fun jj hj => ?_)
        simp only [List.mem_cons, List.not_mem_nil, or_false] at hj
        rcases hj with rfl | rfl
        · obtain ⟨i0, hi, hz0, hz1, hz2⟩ := infoES
          refine EO_do (some 11) rfl rfl rfl (fun K' hK => ?_)
          refine wp_append_lit 22 9 i0 (.string ⟨#[]⟩) 16 Try.underlying22 hi hz0 hz1 hz2 rfl (.tmp 8) (.tmp 10) rfl w2.heap.size g2 HG2.out F2.out rfl ka kn kc (Ss ks) rfl (show (Ss ks).length = kn by rw [len_Ss, HKn.out]) (HQ.out.keys.adds (HA2.out.trans hS)) HQ.out.kn (one_Ss ks) HK9.out (by decide) ?_
          intro a5 c5 W3 r1 hA
          refine hK _ _ (fun _ => Touch.trans hS hA) ?_
          simp only [Act.put, List.setIfInBounds_toArray, List.set_cons_zero, List.set_cons_succ]
          have F5 := hid r1
          replace hS : (fun W : World => Adds w2 W) W3 := Touch.trans hS hA
          replace F2 := hid (box_adds F2.out hA)
          replace F11 := hid (box_adds F11.out hA)
          clear hA r1 hi hz0 hz1 hz2
          refine Pe_all (rs := [6]) (by kernel_rfl) (by simp) (fun jj hj => ?_)
          obtain rfl := List.mem_singleton.1 hj
          refine EO_value 12 (v := .slice (some ⟨W3.heap.size, 0, none⟩) 0 0) (w' := W3.alloc (.cells #[] 3)) rfl rfl (by rfl) (by go_simp) (Touch.alloc hS _) ?_
          simp only [Act.put, List.setIfInBounds_toArray, List.set_cons_zero, List.set_cons_succ]
          obtain ⟨g6, hg6⟩ : ∃ g, g = W3.heap.size := ⟨_, rfl⟩
          obtain ⟨W4, hW4⟩ : ∃ W, W = W3.alloc (.cells #[] 3) := ⟨_, rfl⟩
          have hA : Adds W3 W4 := by rw [hW4]; exact (Touch.refl _ _).alloc _
          have F6 := hid (show W4.heap[g6]? = some (.cells #[] 3) by rw [hW4, hg6]; exact heap_alloc_new _ _)
          have HG6 := hid (show w2.heap.size ≤ g6 by rw [hg6]; exact hS.size)
          rw [← hg6, ← hW4]
          replace hS : (fun W : World => Adds w2 W) W4 := Touch.trans hS hA
          replace F2 := hid (box_adds F2.out hA)
          replace F11 := hid (box_adds F11.out hA)
          replace F5 := hid (row_touch F5.out hA (fun _ _ => id))
          clear hA hg6 hW4
          refine Pe_all (rs := [9]) (by kernel_rfl) (by simp) (fun jj hj => ?_)
          obtain rfl := List.mem_singleton.1 hj
          obtain ⟨i0, hi, hz0, hz1, hz2⟩ := infoEI
          refine EO_do (some 15) rfl rfl rfl (fun K' hK => ?_)
          refine wp_append_lit 24 3 i0 (.int .i64 0) 8 Try.underlying24 hi hz0 hz1 hz2 rfl (.tmp 12) (.tmp 14) rfl w2.heap.size g6 HG6.out F6.out rfl ia zn ic (Is zs) rfl (show (Is zs).length = zn by rw [len_Is, HZn.out]) (HQ.out.kids.adds (HA2.out.trans hS)) HQ.out.inn (one_Is zs) HZ9.out (by decide) ?_
          intro a9 c9 W5 r1 hA
          refine hK _ _ (fun _ => Touch.trans hS hA) ?_
          simp only [Act.put, List.setIfInBounds_toArray, List.set_cons_zero, List.set_cons_succ]
          have F9 := hid r1
          replace hS : (fun W : World => Adds w2 W) W5 := Touch.trans hS hA
          replace F2 := hid (box_adds F2.out hA)
          replace F11 := hid (box_adds F11.out hA)
          replace F5 := hid (row_touch F5.out hA (fun _ _ => id))
          replace F6 := hid (box_adds F6.out hA)
          clear hA r1 hi hz0 hz1 hz2
          refine Pe_put (i := 10) 16 (v := .agg #[.bool leaf, .slice a5 kn c5, .slice none 0 0, .slice a9 zn c9]) rfl rfl (by kernel_rfl) (by kernel_rfl) (by kernel_rfl) (by kernel_rfl) (fun _ _ _ h => h) (Or.inl ⟨by rfl, fun w' hw' => ?_⟩) hS ?_
          · go_simp
          simp only [Act.put, List.setIfInBounds_toArray, List.set_cons_zero, List.set_cons_succ]
          refine Pe_do (i := 12) none (by kernel_rfl) rfl rfl rfl (fun K' hK => ?_)
          refine Go.wp_store_row 28 _ _ rfl g11 #[.bool leaf, .slice a5 kn c5, .slice none 0 0, .slice a9 zn c9] rfl rfl 28 _ F11.out (info4 _ _ _ _) rfl (one4 _ _ _ _ _ _ _ _ _ _) ?_
          refine hK _ _ (fun h => absurd rfl h) (Pe_done (by kernel_rfl) ?_ _)
          have HEnd := hid (pc_made (leaf := leaf) (Touch.refl _ w2) hS HG11.out F11.out F5.out F9.out HKn.out HZn.out)
          clear hS
          simp only [Act.put]
          go_wp2
          go_meet
          case rel => exact ⟨g11, a5, c5, a9, c9, rfl, HEnd⟩
        · refine EO_value 12 (v := .slice (some ⟨W2.heap.size, 0, none⟩) 0 0) (w' := W2.alloc (.cells #[] 3)) rfl rfl (by rfl) (by go_simp) (Touch.alloc hS _) ?_
          simp only [Act.put, List.setIfInBounds_toArray, List.set_cons_zero, List.set_cons_succ]
          obtain ⟨g6, hg6⟩ : ∃ g, g = W2.heap.size := ⟨_, rfl⟩
          obtain ⟨W3, hW3⟩ : ∃ W, W = W2.alloc (.cells #[] 3) := ⟨_, rfl⟩
          have hA : Adds W2 W3 := by rw [hW3]; exact (Touch.refl _ _).alloc _
          have F6 := hid (show W3.heap[g6]? = some (.cells #[] 3) by rw [hW3, hg6]; exact heap_alloc_new _ _)
          have HG6 := hid (show w2.heap.size ≤ g6 by rw [hg6]; exact hS.size)
          rw [← hg6, ← hW3]
          replace hS : (fun W : World => Adds w2 W) W3 := Touch.trans hS hA
          replace F2 := hid (box_adds F2.out hA)
          replace F11 := hid (box_adds F11.out hA)
          clear hA hg6 hW3
          refine Pe_all (rs := [5]) (by kernel_rfl) (by simp) (fun jj hj => ?_)
          obtain rfl := List.mem_singleton.1 hj
          obtain ⟨i0, hi, hz0, hz1, hz2⟩ := infoES
          refine EO_do (some 11) rfl rfl rfl (fun K' hK => ?_)
          refine wp_append_lit 22 9 i0 (.string ⟨#[]⟩) 16 Try.underlying22 hi hz0 hz1 hz2 rfl (.tmp 8) (.tmp 10) rfl w2.heap.size g2 HG2.out F2.out rfl ka kn kc (Ss ks) rfl (show (Ss ks).length = kn by rw [len_Ss, HKn.out]) (HQ.out.keys.adds (HA2.out.trans hS)) HQ.out.kn (one_Ss ks) HK9.out (by decide) ?_
          intro a5 c5 W4 r1 hA
          refine hK _ _ (fun _ => Touch.trans hS hA) ?_
          simp only [Act.put, List.setIfInBounds_toArray, List.set_cons_zero, List.set_cons_succ]
          have F5 := hid r1
          replace hS : (fun W : World => Adds w2 W) W4 := Touch.trans hS hA
          replace F2 := hid (box_adds F2.out hA)
          replace F11 := hid (box_adds F11.out hA)
          replace F6 := hid (box_adds F6.out hA)
          clear hA r1 hi hz0 hz1 hz2
          refine Pe_all (rs := [9]) (by kernel_rfl) (by simp) (fun jj hj => ?_)
          obtain rfl := List.mem_singleton.1 hj
          obtain ⟨i0, hi, hz0, hz1, hz2⟩ := infoEI
          refine EO_do (some 15) rfl rfl rfl (fun K' hK => ?_)
          refine wp_append_lit 24 3 i0 (.int .i64 0) 8 Try.underlying24 hi hz0 hz1 hz2 rfl (.tmp 12) (.tmp 14) rfl w2.heap.size g6 HG6.out F6.out rfl ia zn ic (Is zs) rfl (show (Is zs).length = zn by rw [len_Is, HZn.out]) (HQ.out.kids.adds (HA2.out.trans hS)) HQ.out.inn (one_Is zs) HZ9.out (by decide) ?_
          intro a9 c9 W5 r1 hA
          refine hK _ _ (fun _ => Touch.trans hS hA) ?_
          simp only [Act.put, List.setIfInBounds_toArray, List.set_cons_zero, List.set_cons_succ]
          have F9 := hid r1
          replace hS : (fun W : World => Adds w2 W) W5 := Touch.trans hS hA
          replace F2 := hid (box_adds F2.out hA)
          replace F11 := hid (box_adds F11.out hA)
          replace F6 := hid (box_adds F6.out hA)
          replace F5 := hid (row_touch F5.out hA (fun _ _ => id))
          clear hA r1 hi hz0 hz1 hz2
          refine Pe_put (i := 10) 16 (v := .agg #[.bool leaf, .slice a5 kn c5, .slice none 0 0, .slice a9 zn c9]) rfl rfl (by kernel_rfl) (by kernel_rfl) (by kernel_rfl) (by kernel_rfl) (fun _ _ _ h => h) (Or.inl ⟨by rfl, fun w' hw' => ?_⟩) hS ?_
          · go_simp
          simp only [Act.put, List.setIfInBounds_toArray, List.set_cons_zero, List.set_cons_succ]
          refine Pe_do (i := 12) none (by kernel_rfl) rfl rfl rfl (fun K' hK => ?_)
          refine Go.wp_store_row 28 _ _ rfl g11 #[.bool leaf, .slice a5 kn c5, .slice none 0 0, .slice a9 zn c9] rfl rfl 28 _ F11.out (info4 _ _ _ _) rfl (one4 _ _ _ _ _ _ _ _ _ _) ?_
          refine hK _ _ (fun h => absurd rfl h) (Pe_done (by kernel_rfl) ?_ _)
          have HEnd := hid (pc_made (leaf := leaf) (Touch.refl _ w2) hS HG11.out F11.out F5.out F9.out HKn.out HZn.out)
          clear hS
          simp only [Act.put]
          go_wp2
          go_meet
          case rel => exact ⟨g11, a5, c5, a9, c9, rfl, HEnd⟩
    · refine EO_value 12 (v := .slice (some ⟨W0.heap.size, 0, none⟩) 0 0) (w' := W0.alloc (.cells #[] 3)) rfl rfl (by rfl) (by go_simp) (Touch.alloc hS _) ?_
      simp only [Act.put, List.setIfInBounds_toArray, List.set_cons_zero, List.set_cons_succ]
      obtain ⟨g6, hg6⟩ : ∃ g, g = W0.heap.size := ⟨_, rfl⟩
      obtain ⟨W1, hW1⟩ : ∃ W, W = W0.alloc (.cells #[] 3) := ⟨_, rfl⟩
      have hA : Adds W0 W1 := by rw [hW1]; exact (Touch.refl _ _).alloc _
      have F6 := hid (show W1.heap[g6]? = some (.cells #[] 3) by rw [hW1, hg6]; exact heap_alloc_new _ _)
      have HG6 := hid (show w2.heap.size ≤ g6 by rw [hg6]; exact hS.size)
      rw [← hg6, ← hW1]
      replace hS : (fun W : World => Adds w2 W) W1 := Touch.trans hS hA
      clear hA hg6 hW1
      refine Pe_all (rs := [2, 11]) (by kernel_rfl) (by simp) (fun jj hj => ?_)
      simp only [List.mem_cons, List.not_mem_nil, or_false] at hj
      rcases hj with rfl | rfl
      · refine EO_value 8 (v := .slice (some ⟨W1.heap.size, 0, none⟩) 0 0) (w' := W1.alloc (.cells #[] 9)) rfl rfl (by rfl) (by go_simp) (Touch.alloc hS _) ?_
        simp only [Act.put, List.setIfInBounds_toArray, List.set_cons_zero, List.set_cons_succ]
        obtain ⟨g2, hg2⟩ : ∃ g, g = W1.heap.size := ⟨_, rfl⟩
        obtain ⟨W2, hW2⟩ : ∃ W, W = W1.alloc (.cells #[] 9) := ⟨_, rfl⟩
        have hA : Adds W1 W2 := by rw [hW2]; exact (Touch.refl _ _).alloc _
        have F2 := hid (show W2.heap[g2]? = some (.cells #[] 9) by rw [hW2, hg2]; exact heap_alloc_new _ _)
        have HG2 := hid (show w2.heap.size ≤ g2 by rw [hg2]; exact hS.size)
        rw [← hg2, ← hW2]
        replace hS : (fun W : World => Adds w2 W) W2 := Touch.trans hS hA
        replace F6 := hid (box_adds F6.out hA)
        clear hA hg2 hW2
        refine Pe_all (rs := [5, 11]) (by kernel_rfl) (by simp) (fun jj hj => ?_)
        simp only [List.mem_cons, List.not_mem_nil, or_false] at hj
        rcases hj with rfl | rfl
        · obtain ⟨i0, hi, hz0, hz1, hz2⟩ := infoES
          refine EO_do (some 11) rfl rfl rfl (fun K' hK => ?_)
          refine wp_append_lit 22 9 i0 (.string ⟨#[]⟩) 16 Try.underlying22 hi hz0 hz1 hz2 rfl (.tmp 8) (.tmp 10) rfl w2.heap.size g2 HG2.out F2.out rfl ka kn kc (Ss ks) rfl (show (Ss ks).length = kn by rw [len_Ss, HKn.out]) (HQ.out.keys.adds (HA2.out.trans hS)) HQ.out.kn (one_Ss ks) HK9.out (by decide) ?_
          intro a5 c5 W3 r1 hA
          refine hK _ _ (fun _ => Touch.trans hS hA) ?_
          simp only [Act.put, List.setIfInBounds_toArray, List.set_cons_zero, List.set_cons_succ]
          have F5 := hid r1
          replace hS : (fun W : World => Adds w2 W) W3 := Touch.trans hS hA
          replace F6 := hid (box_adds F6.out hA)
          replace F2 := hid (box_adds F2.out hA)
          clear hA r1 hi hz0 hz1 hz2
          refine Pe_all (rs := [9, 11]) (by kernel_rfl) (by simp) (fun jj hj => ?_)
          simp only [List.mem_cons, List.not_mem_nil, or_false] at hj
          rcases hj with rfl | rfl
          · obtain ⟨i0, hi, hz0, hz1, hz2⟩ := infoEI
            refine EO_do (some 15) rfl rfl rfl (fun K' hK => ?_)
            refine wp_append_lit 24 3 i0 (.int .i64 0) 8 Try.underlying24 hi hz0 hz1 hz2 rfl (.tmp 12) (.tmp 14) rfl w2.heap.size g6 HG6.out F6.out rfl ia zn ic (Is zs) rfl (show (Is zs).length = zn by rw [len_Is, HZn.out]) (HQ.out.kids.adds (HA2.out.trans hS)) HQ.out.inn (one_Is zs) HZ9.out (by decide) ?_
            intro a9 c9 W4 r1 hA
            refine hK _ _ (fun _ => Touch.trans hS hA) ?_
            simp only [Act.put, List.setIfInBounds_toArray, List.set_cons_zero, List.set_cons_succ]
            have F9 := hid r1
            replace hS : (fun W : World => Adds w2 W) W4 := Touch.trans hS hA
            replace F6 := hid (box_adds F6.out hA)
            replace F2 := hid (box_adds F2.out hA)
            replace F5 := hid (row_touch F5.out hA (fun _ _ => id))
            clear hA r1 hi hz0 hz1 hz2
            refine Pe_put (i := 10) 16 (v := .agg #[.bool leaf, .slice a5 kn c5, .slice none 0 0, .slice a9 zn c9]) rfl rfl (by kernel_rfl) (by kernel_rfl) (by kernel_rfl) (by kernel_rfl) (fun _ _ _ h => h) (Or.inl ⟨by rfl, fun w' hw' => ?_⟩) hS ?_
            · go_simp
            simp only [Act.put, List.setIfInBounds_toArray, List.set_cons_zero, List.set_cons_succ]
            refine Pe_all (rs := [11]) (by kernel_rfl) (by simp) (fun jj hj => ?_)
            obtain rfl := List.mem_singleton.1 hj
            refine EO_value 3 (v := .pointer (some ⟨W4.heap.size, 0, none⟩)) (w' := W4.alloc NZ) rfl rfl (by rfl) (by go_simp) (Touch.alloc hS _) ?_
            simp only [Act.put, List.setIfInBounds_toArray, List.set_cons_zero, List.set_cons_succ]
            obtain ⟨g11, hg11⟩ : ∃ g, g = W4.heap.size := ⟨_, rfl⟩
            obtain ⟨W5, hW5⟩ : ∃ W, W = W4.alloc NZ := ⟨_, rfl⟩
            have hA : Adds W4 W5 := by rw [hW5]; exact (Touch.refl _ _).alloc _
            have F11 := hid (show W5.heap[g11]? = some NZ by rw [hW5, hg11]; exact heap_alloc_new _ _)
            have HG11 := hid (show w2.heap.size ≤ g11 by rw [hg11]; exact hS.size)
            rw [← hg11, ← hW5]
            replace hS : (fun W : World => Adds w2 W) W5 := Touch.trans hS hA
            replace F6 := hid (box_adds F6.out hA)
            replace F2 := hid (box_adds F2.out hA)
            replace F5 := hid (row_touch F5.out hA (fun _ _ => id))
            replace F9 := hid (row_touch F9.out hA (fun _ _ => id))
            clear hA hg11 hW5
            refine Pe_do (i := 12) none (by kernel_rfl) rfl rfl rfl (fun K' hK => ?_)
            refine Go.wp_store_row 28 _ _ rfl g11 #[.bool leaf, .slice a5 kn c5, .slice none 0 0, .slice a9 zn c9] rfl rfl 28 _ F11.out (info4 _ _ _ _) rfl (one4 _ _ _ _ _ _ _ _ _ _) ?_
            refine hK _ _ (fun h => absurd rfl h) (Pe_done (by kernel_rfl) ?_ _)
            have HEnd := hid (pc_made (leaf := leaf) (Touch.refl _ w2) hS HG11.out F11.out F5.out F9.out HKn.out HZn.out)
            clear hS
            simp only [Act.put]
            go_wp2
            go_meet
            case rel => exact ⟨g11, a5, c5, a9, c9, rfl, HEnd⟩
          · refine EO_value 3 (v := .pointer (some ⟨W3.heap.size, 0, none⟩)) (w' := W3.alloc NZ) rfl rfl (by rfl) (by go_simp) (Touch.alloc hS _) ?_
            simp only [Act.put, List.setIfInBounds_toArray, List.set_cons_zero, List.set_cons_succ]
            obtain ⟨g11, hg11⟩ : ∃ g, g = W3.heap.size := ⟨_, rfl⟩
            obtain ⟨W4, hW4⟩ : ∃ W, W = W3.alloc NZ := ⟨_, rfl⟩
            have hA : Adds W3 W4 := by rw [hW4]; exact (Touch.refl _ _).alloc _
            have F11 := hid (show W4.heap[g11]? = some NZ by rw [hW4, hg11]; exact heap_alloc_new _ _)
            have HG11 := hid (show w2.heap.size ≤ g11 by rw [hg11]; exact hS.size)
            rw [← hg11, ← hW4]
            replace hS : (fun W : World => Adds w2 W) W4 := Touch.trans hS hA
            replace F6 := hid (box_adds F6.out hA)
            replace F2 := hid (box_adds F2.out hA)
            replace F5 := hid (row_touch F5.out hA (fun _ _ => id))
            clear hA hg11 hW4
            refine Pe_all (rs := [9]) (by kernel_rfl) (by simp) (fun jj hj => ?_)
            obtain rfl := List.mem_singleton.1 hj
            obtain ⟨i0, hi, hz0, hz1, hz2⟩ := infoEI
            refine EO_do (some 15) rfl rfl rfl (fun K' hK => ?_)
            refine wp_append_lit 24 3 i0 (.int .i64 0) 8 Try.underlying24 hi hz0 hz1 hz2 rfl (.tmp 12) (.tmp 14) rfl w2.heap.size g6 HG6.out F6.out rfl ia zn ic (Is zs) rfl (show (Is zs).length = zn by rw [len_Is, HZn.out]) (HQ.out.kids.adds (HA2.out.trans hS)) HQ.out.inn (one_Is zs) HZ9.out (by decide) ?_
            intro a9 c9 W5 r1 hA
            refine hK _ _ (fun _ => Touch.trans hS hA) ?_
            simp only [Act.put, List.setIfInBounds_toArray, List.set_cons_zero, List.set_cons_succ]
            have F9 := hid r1
            replace hS : (fun W : World => Adds w2 W) W5 := Touch.trans hS hA
            replace F6 := hid (box_adds F6.out hA)
            replace F2 := hid (box_adds F2.out hA)
            replace F5 := hid (row_touch F5.out hA (fun _ _ => id))
            replace F11 := hid (box_adds F11.out hA)
            clear hA r1 hi hz0 hz1 hz2
            refine Pe_put (i := 10) 16 (v := .agg #[.bool leaf, .slice a5 kn c5, .slice none 0 0, .slice a9 zn c9]) rfl rfl (by kernel_rfl) (by kernel_rfl) (by kernel_rfl) (by kernel_rfl) (fun _ _ _ h => h) (Or.inl ⟨by rfl, fun w' hw' => ?_⟩) hS ?_
            · go_simp
            simp only [Act.put, List.setIfInBounds_toArray, List.set_cons_zero, List.set_cons_succ]
            refine Pe_do (i := 12) none (by kernel_rfl) rfl rfl rfl (fun K' hK => ?_)
            refine Go.wp_store_row 28 _ _ rfl g11 #[.bool leaf, .slice a5 kn c5, .slice none 0 0, .slice a9 zn c9] rfl rfl 28 _ F11.out (info4 _ _ _ _) rfl (one4 _ _ _ _ _ _ _ _ _ _) ?_
            refine hK _ _ (fun h => absurd rfl h) (Pe_done (by kernel_rfl) ?_ _)
            have HEnd := hid (pc_made (leaf := leaf) (Touch.refl _ w2) hS HG11.out F11.out F5.out F9.out HKn.out HZn.out)
            clear hS
            simp only [Act.put]
            go_wp2
            go_meet
            case rel => exact ⟨g11, a5, c5, a9, c9, rfl, HEnd⟩
        · refine EO_value 3 (v := .pointer (some ⟨W2.heap.size, 0, none⟩)) (w' := W2.alloc NZ) rfl rfl (by rfl) (by go_simp) (Touch.alloc hS _) ?_
          simp only [Act.put, List.setIfInBounds_toArray, List.set_cons_zero, List.set_cons_succ]
          obtain ⟨g11, hg11⟩ : ∃ g, g = W2.heap.size := ⟨_, rfl⟩
          obtain ⟨W3, hW3⟩ : ∃ W, W = W2.alloc NZ := ⟨_, rfl⟩
          have hA : Adds W2 W3 := by rw [hW3]; exact (Touch.refl _ _).alloc _
          have F11 := hid (show W3.heap[g11]? = some NZ by rw [hW3, hg11]; exact heap_alloc_new _ _)
          have HG11 := hid (show w2.heap.size ≤ g11 by rw [hg11]; exact hS.size)
          rw [← hg11, ← hW3]
          replace hS : (fun W : World => Adds w2 W) W3 := Touch.trans hS hA
          replace F6 := hid (box_adds F6.out hA)
          replace F2 := hid (box_adds F2.out hA)
          clear hA hg11 hW3
          refine Pe_all (rs := [5]) (by kernel_rfl) (by simp) (fun jj hj => ?_)
          obtain rfl := List.mem_singleton.1 hj
          obtain ⟨i0, hi, hz0, hz1, hz2⟩ := infoES
          refine EO_do (some 11) rfl rfl rfl (fun K' hK => ?_)
          refine wp_append_lit 22 9 i0 (.string ⟨#[]⟩) 16 Try.underlying22 hi hz0 hz1 hz2 rfl (.tmp 8) (.tmp 10) rfl w2.heap.size g2 HG2.out F2.out rfl ka kn kc (Ss ks) rfl (show (Ss ks).length = kn by rw [len_Ss, HKn.out]) (HQ.out.keys.adds (HA2.out.trans hS)) HQ.out.kn (one_Ss ks) HK9.out (by decide) ?_
          intro a5 c5 W4 r1 hA
          refine hK _ _ (fun _ => Touch.trans hS hA) ?_
          simp only [Act.put, List.setIfInBounds_toArray, List.set_cons_zero, List.set_cons_succ]
          have F5 := hid r1
          replace hS : (fun W : World => Adds w2 W) W4 := Touch.trans hS hA
          replace F6 := hid (box_adds F6.out hA)
          replace F2 := hid (box_adds F2.out hA)
          replace F11 := hid (box_adds F11.out hA)
          clear hA r1 hi hz0 hz1 hz2
          refine Pe_all (rs := [9]) (by kernel_rfl) (by simp) (fun jj hj => ?_)
          obtain rfl := List.mem_singleton.1 hj
          obtain ⟨i0, hi, hz0, hz1, hz2⟩ := infoEI
          refine EO_do (some 15) rfl rfl rfl (fun K' hK => ?_)
          refine wp_append_lit 24 3 i0 (.int .i64 0) 8 Try.underlying24 hi hz0 hz1 hz2 rfl (.tmp 12) (.tmp 14) rfl w2.heap.size g6 HG6.out F6.out rfl ia zn ic (Is zs) rfl (show (Is zs).length = zn by rw [len_Is, HZn.out]) (HQ.out.kids.adds (HA2.out.trans hS)) HQ.out.inn (one_Is zs) HZ9.out (by decide) ?_
          intro a9 c9 W5 r1 hA
          refine hK _ _ (fun _ => Touch.trans hS hA) ?_
          simp only [Act.put, List.setIfInBounds_toArray, List.set_cons_zero, List.set_cons_succ]
          have F9 := hid r1
          replace hS : (fun W : World => Adds w2 W) W5 := Touch.trans hS hA
          replace F6 := hid (box_adds F6.out hA)
          replace F2 := hid (box_adds F2.out hA)
          replace F11 := hid (box_adds F11.out hA)
          replace F5 := hid (row_touch F5.out hA (fun _ _ => id))
          clear hA r1 hi hz0 hz1 hz2
          refine Pe_put (i := 10) 16 (v := .agg #[.bool leaf, .slice a5 kn c5, .slice none 0 0, .slice a9 zn c9]) rfl rfl (by kernel_rfl) (by kernel_rfl) (by kernel_rfl) (by kernel_rfl) (fun _ _ _ h => h) (Or.inl ⟨by rfl, fun w' hw' => ?_⟩) hS ?_
          · go_simp
          simp only [Act.put, List.setIfInBounds_toArray, List.set_cons_zero, List.set_cons_succ]
          refine Pe_do (i := 12) none (by kernel_rfl) rfl rfl rfl (fun K' hK => ?_)
          refine Go.wp_store_row 28 _ _ rfl g11 #[.bool leaf, .slice a5 kn c5, .slice none 0 0, .slice a9 zn c9] rfl rfl 28 _ F11.out (info4 _ _ _ _) rfl (one4 _ _ _ _ _ _ _ _ _ _) ?_
          refine hK _ _ (fun h => absurd rfl h) (Pe_done (by kernel_rfl) ?_ _)
          have HEnd := hid (pc_made (leaf := leaf) (Touch.refl _ w2) hS HG11.out F11.out F5.out F9.out HKn.out HZn.out)
          clear hS
          simp only [Act.put]
          go_wp2
          go_meet
          case rel => exact ⟨g11, a5, c5, a9, c9, rfl, HEnd⟩
      · refine EO_value 3 (v := .pointer (some ⟨W1.heap.size, 0, none⟩)) (w' := W1.alloc NZ) rfl rfl (by rfl) (by go_simp) (Touch.alloc hS _) ?_
        simp only [Act.put, List.setIfInBounds_toArray, List.set_cons_zero, List.set_cons_succ]
        obtain ⟨g11, hg11⟩ : ∃ g, g = W1.heap.size := ⟨_, rfl⟩
        obtain ⟨W2, hW2⟩ : ∃ W, W = W1.alloc NZ := ⟨_, rfl⟩
        have hA : Adds W1 W2 := by rw [hW2]; exact (Touch.refl _ _).alloc _
        have F11 := hid (show W2.heap[g11]? = some NZ by rw [hW2, hg11]; exact heap_alloc_new _ _)
        have HG11 := hid (show w2.heap.size ≤ g11 by rw [hg11]; exact hS.size)
        rw [← hg11, ← hW2]
        replace hS : (fun W : World => Adds w2 W) W2 := Touch.trans hS hA
        replace F6 := hid (box_adds F6.out hA)
        clear hA hg11 hW2
        refine Pe_all (rs := [2]) (by kernel_rfl) (by simp) (fun jj hj => ?_)
        obtain rfl := List.mem_singleton.1 hj
        refine EO_value 8 (v := .slice (some ⟨W2.heap.size, 0, none⟩) 0 0) (w' := W2.alloc (.cells #[] 9)) rfl rfl (by rfl) (by go_simp) (Touch.alloc hS _) ?_
        simp only [Act.put, List.setIfInBounds_toArray, List.set_cons_zero, List.set_cons_succ]
        obtain ⟨g2, hg2⟩ : ∃ g, g = W2.heap.size := ⟨_, rfl⟩
        obtain ⟨W3, hW3⟩ : ∃ W, W = W2.alloc (.cells #[] 9) := ⟨_, rfl⟩
        have hA : Adds W2 W3 := by rw [hW3]; exact (Touch.refl _ _).alloc _
        have F2 := hid (show W3.heap[g2]? = some (.cells #[] 9) by rw [hW3, hg2]; exact heap_alloc_new _ _)
        have HG2 := hid (show w2.heap.size ≤ g2 by rw [hg2]; exact hS.size)
        rw [← hg2, ← hW3]
        replace hS : (fun W : World => Adds w2 W) W3 := Touch.trans hS hA
        replace F6 := hid (box_adds F6.out hA)
        replace F11 := hid (box_adds F11.out hA)
        clear hA hg2 hW3
        refine Pe_all (rs := [5]) (by kernel_rfl) (by simp) (fun jj hj => ?_)
        obtain rfl := List.mem_singleton.1 hj
        obtain ⟨i0, hi, hz0, hz1, hz2⟩ := infoES
        refine EO_do (some 11) rfl rfl rfl (fun K' hK => ?_)
        refine wp_append_lit 22 9 i0 (.string ⟨#[]⟩) 16 Try.underlying22 hi hz0 hz1 hz2 rfl (.tmp 8) (.tmp 10) rfl w2.heap.size g2 HG2.out F2.out rfl ka kn kc (Ss ks) rfl (show (Ss ks).length = kn by rw [len_Ss, HKn.out]) (HQ.out.keys.adds (HA2.out.trans hS)) HQ.out.kn (one_Ss ks) HK9.out (by decide) ?_
        intro a5 c5 W4 r1 hA
        refine hK _ _ (fun _ => Touch.trans hS hA) ?_
        simp only [Act.put, List.setIfInBounds_toArray, List.set_cons_zero, List.set_cons_succ]
        have F5 := hid r1
        replace hS : (fun W : World => Adds w2 W) W4 := Touch.trans hS hA
        replace F6 := hid (box_adds F6.out hA)
        replace F11 := hid (box_adds F11.out hA)
        replace F2 := hid (box_adds F2.out hA)
        clear hA r1 hi hz0 hz1 hz2
        refine Pe_all (rs := [9]) (by kernel_rfl) (by simp) (fun jj hj => ?_)
        obtain rfl := List.mem_singleton.1 hj
        obtain ⟨i0, hi, hz0, hz1, hz2⟩ := infoEI
        refine EO_do (some 15) rfl rfl rfl (fun K' hK => ?_)
        refine wp_append_lit 24 3 i0 (.int .i64 0) 8 Try.underlying24 hi hz0 hz1 hz2 rfl (.tmp 12) (.tmp 14) rfl w2.heap.size g6 HG6.out F6.out rfl ia zn ic (Is zs) rfl (show (Is zs).length = zn by rw [len_Is, HZn.out]) (HQ.out.kids.adds (HA2.out.trans hS)) HQ.out.inn (one_Is zs) HZ9.out (by decide) ?_
        intro a9 c9 W5 r1 hA
        refine hK _ _ (fun _ => Touch.trans hS hA) ?_
        simp only [Act.put, List.setIfInBounds_toArray, List.set_cons_zero, List.set_cons_succ]
        have F9 := hid r1
        replace hS : (fun W : World => Adds w2 W) W5 := Touch.trans hS hA
        replace F6 := hid (box_adds F6.out hA)
        replace F11 := hid (box_adds F11.out hA)
        replace F2 := hid (box_adds F2.out hA)
        replace F5 := hid (row_touch F5.out hA (fun _ _ => id))
        clear hA r1 hi hz0 hz1 hz2
        refine Pe_put (i := 10) 16 (v := .agg #[.bool leaf, .slice a5 kn c5, .slice none 0 0, .slice a9 zn c9]) rfl rfl (by kernel_rfl) (by kernel_rfl) (by kernel_rfl) (by kernel_rfl) (fun _ _ _ h => h) (Or.inl ⟨by rfl, fun w' hw' => ?_⟩) hS ?_
        · go_simp
        simp only [Act.put, List.setIfInBounds_toArray, List.set_cons_zero, List.set_cons_succ]
        refine Pe_do (i := 12) none (by kernel_rfl) rfl rfl rfl (fun K' hK => ?_)
        refine Go.wp_store_row 28 _ _ rfl g11 #[.bool leaf, .slice a5 kn c5, .slice none 0 0, .slice a9 zn c9] rfl rfl 28 _ F11.out (info4 _ _ _ _) rfl (one4 _ _ _ _ _ _ _ _ _ _) ?_
        refine hK _ _ (fun h => absurd rfl h) (Pe_done (by kernel_rfl) ?_ _)
        have HEnd := hid (pc_made (leaf := leaf) (Touch.refl _ w2) hS HG11.out F11.out F5.out F9.out HKn.out HZn.out)
        clear hS
        simp only [Act.put]
        go_wp2
        go_meet
        case rel => exact ⟨g11, a5, c5, a9, c9, rfl, HEnd⟩
    · refine EO_value 3 (v := .pointer (some ⟨W0.heap.size, 0, none⟩)) (w' := W0.alloc NZ) rfl rfl (by rfl) (by go_simp) (Touch.alloc hS _) ?_
      simp only [Act.put, List.setIfInBounds_toArray, List.set_cons_zero, List.set_cons_succ]
      obtain ⟨g11, hg11⟩ : ∃ g, g = W0.heap.size := ⟨_, rfl⟩
      obtain ⟨W1, hW1⟩ : ∃ W, W = W0.alloc NZ := ⟨_, rfl⟩
      have hA : Adds W0 W1 := by rw [hW1]; exact (Touch.refl _ _).alloc _
      have F11 := hid (show W1.heap[g11]? = some NZ by rw [hW1, hg11]; exact heap_alloc_new _ _)
      have HG11 := hid (show w2.heap.size ≤ g11 by rw [hg11]; exact hS.size)
      rw [← hg11, ← hW1]
      replace hS : (fun W : World => Adds w2 W) W1 := Touch.trans hS hA
      clear hA hg11 hW1
      refine Pe_all (rs := [2, 6]) (by kernel_rfl) (by simp) (fun jj hj => ?_)
      simp only [List.mem_cons, List.not_mem_nil, or_false] at hj
      rcases hj with rfl | rfl
      · refine EO_value 8 (v := .slice (some ⟨W1.heap.size, 0, none⟩) 0 0) (w' := W1.alloc (.cells #[] 9)) rfl rfl (by rfl) (by go_simp) (Touch.alloc hS _) ?_
        simp only [Act.put, List.setIfInBounds_toArray, List.set_cons_zero, List.set_cons_succ]
        obtain ⟨g2, hg2⟩ : ∃ g, g = W1.heap.size := ⟨_, rfl⟩
        obtain ⟨W2, hW2⟩ : ∃ W, W = W1.alloc (.cells #[] 9) := ⟨_, rfl⟩
        have hA : Adds W1 W2 := by rw [hW2]; exact (Touch.refl _ _).alloc _
        have F2 := hid (show W2.heap[g2]? = some (.cells #[] 9) by rw [hW2, hg2]; exact heap_alloc_new _ _)
        have HG2 := hid (show w2.heap.size ≤ g2 by rw [hg2]; exact hS.size)
        rw [← hg2, ← hW2]
        replace hS : (fun W : World => Adds w2 W) W2 := Touch.trans hS hA
        replace F11 := hid (box_adds F11.out hA)
        clear hA hg2 hW2
        refine Pe_all (rs := [5, 6]) (by kernel_rfl) (by simp) (fun jj hj => ?_)
        simp only [List.mem_cons, List.not_mem_nil, or_false] at hj
        rcases hj with rfl | rfl
        · obtain ⟨i0, hi, hz0, hz1, hz2⟩ := infoES
          refine EO_do (some 11) rfl rfl rfl (fun K' hK => ?_)
          refine wp_append_lit 22 9 i0 (.string ⟨#[]⟩) 16 Try.underlying22 hi hz0 hz1 hz2 rfl (.tmp 8) (.tmp 10) rfl w2.heap.size g2 HG2.out F2.out rfl ka kn kc (Ss ks) rfl (show (Ss ks).length = kn by rw [len_Ss, HKn.out]) (HQ.out.keys.adds (HA2.out.trans hS)) HQ.out.kn (one_Ss ks) HK9.out (by decide) ?_
          intro a5 c5 W3 r1 hA
          refine hK _ _ (fun _ => Touch.trans hS hA) ?_
          simp only [Act.put, List.setIfInBounds_toArray, List.set_cons_zero, List.set_cons_succ]
          have F5 := hid r1
          replace hS : (fun W : World => Adds w2 W) W3 := Touch.trans hS hA
          replace F11 := hid (box_adds F11.out hA)
          replace F2 := hid (box_adds F2.out hA)
          clear hA r1 hi hz0 hz1 hz2
          refine Pe_all (rs := [6]) (by kernel_rfl) (by simp) (fun jj hj => ?_)
          obtain rfl := List.mem_singleton.1 hj
          refine EO_value 12 (v := .slice (some ⟨W3.heap.size, 0, none⟩) 0 0) (w' := W3.alloc (.cells #[] 3)) rfl rfl (by rfl) (by go_simp) (Touch.alloc hS _) ?_
          simp only [Act.put, List.setIfInBounds_toArray, List.set_cons_zero, List.set_cons_succ]
          obtain ⟨g6, hg6⟩ : ∃ g, g = W3.heap.size := ⟨_, rfl⟩
          obtain ⟨W4, hW4⟩ : ∃ W, W = W3.alloc (.cells #[] 3) := ⟨_, rfl⟩
          have hA : Adds W3 W4 := by rw [hW4]; exact (Touch.refl _ _).alloc _
          have F6 := hid (show W4.heap[g6]? = some (.cells #[] 3) by rw [hW4, hg6]; exact heap_alloc_new _ _)
          have HG6 := hid (show w2.heap.size ≤ g6 by rw [hg6]; exact hS.size)
          rw [← hg6, ← hW4]
          replace hS : (fun W : World => Adds w2 W) W4 := Touch.trans hS hA
          replace F11 := hid (box_adds F11.out hA)
          replace F2 := hid (box_adds F2.out hA)
          replace F5 := hid (row_touch F5.out hA (fun _ _ => id))
          clear hA hg6 hW4
          refine Pe_all (rs := [9]) (by kernel_rfl) (by simp) (fun jj hj => ?_)
          obtain rfl := List.mem_singleton.1 hj
          obtain ⟨i0, hi, hz0, hz1, hz2⟩ := infoEI
          refine EO_do (some 15) rfl rfl rfl (fun K' hK => ?_)
          refine wp_append_lit 24 3 i0 (.int .i64 0) 8 Try.underlying24 hi hz0 hz1 hz2 rfl (.tmp 12) (.tmp 14) rfl w2.heap.size g6 HG6.out F6.out rfl ia zn ic (Is zs) rfl (show (Is zs).length = zn by rw [len_Is, HZn.out]) (HQ.out.kids.adds (HA2.out.trans hS)) HQ.out.inn (one_Is zs) HZ9.out (by decide) ?_
          intro a9 c9 W5 r1 hA
          refine hK _ _ (fun _ => Touch.trans hS hA) ?_
          simp only [Act.put, List.setIfInBounds_toArray, List.set_cons_zero, List.set_cons_succ]
          have F9 := hid r1
          replace hS : (fun W : World => Adds w2 W) W5 := Touch.trans hS hA
          replace F11 := hid (box_adds F11.out hA)
          replace F2 := hid (box_adds F2.out hA)
          replace F5 := hid (row_touch F5.out hA (fun _ _ => id))
          replace F6 := hid (box_adds F6.out hA)
          clear hA r1 hi hz0 hz1 hz2
          refine Pe_put (i := 10) 16 (v := .agg #[.bool leaf, .slice a5 kn c5, .slice none 0 0, .slice a9 zn c9]) rfl rfl (by kernel_rfl) (by kernel_rfl) (by kernel_rfl) (by kernel_rfl) (fun _ _ _ h => h) (Or.inl ⟨by rfl, fun w' hw' => ?_⟩) hS ?_
          · go_simp
          simp only [Act.put, List.setIfInBounds_toArray, List.set_cons_zero, List.set_cons_succ]
          refine Pe_do (i := 12) none (by kernel_rfl) rfl rfl rfl (fun K' hK => ?_)
          refine Go.wp_store_row 28 _ _ rfl g11 #[.bool leaf, .slice a5 kn c5, .slice none 0 0, .slice a9 zn c9] rfl rfl 28 _ F11.out (info4 _ _ _ _) rfl (one4 _ _ _ _ _ _ _ _ _ _) ?_
          refine hK _ _ (fun h => absurd rfl h) (Pe_done (by kernel_rfl) ?_ _)
          have HEnd := hid (pc_made (leaf := leaf) (Touch.refl _ w2) hS HG11.out F11.out F5.out F9.out HKn.out HZn.out)
          clear hS
          simp only [Act.put]
          go_wp2
          go_meet
          case rel => exact ⟨g11, a5, c5, a9, c9, rfl, HEnd⟩
        · refine EO_value 12 (v := .slice (some ⟨W2.heap.size, 0, none⟩) 0 0) (w' := W2.alloc (.cells #[] 3)) rfl rfl (by rfl) (by go_simp) (Touch.alloc hS _) ?_
          simp only [Act.put, List.setIfInBounds_toArray, List.set_cons_zero, List.set_cons_succ]
          obtain ⟨g6, hg6⟩ : ∃ g, g = W2.heap.size := ⟨_, rfl⟩
          obtain ⟨W3, hW3⟩ : ∃ W, W = W2.alloc (.cells #[] 3) := ⟨_, rfl⟩
          have hA : Adds W2 W3 := by rw [hW3]; exact (Touch.refl _ _).alloc _
          have F6 := hid (show W3.heap[g6]? = some (.cells #[] 3) by rw [hW3, hg6]; exact heap_alloc_new _ _)
          have HG6 := hid (show w2.heap.size ≤ g6 by rw [hg6]; exact hS.size)
          rw [← hg6, ← hW3]
          replace hS : (fun W : World => Adds w2 W) W3 := Touch.trans hS hA
          replace F11 := hid (box_adds F11.out hA)
          replace F2 := hid (box_adds F2.out hA)
          clear hA hg6 hW3
          refine Pe_all (rs := [5]) (by kernel_rfl) (by simp) (fun jj hj => ?_)
          obtain rfl := List.mem_singleton.1 hj
          obtain ⟨i0, hi, hz0, hz1, hz2⟩ := infoES
          refine EO_do (some 11) rfl rfl rfl (fun K' hK => ?_)
          refine wp_append_lit 22 9 i0 (.string ⟨#[]⟩) 16 Try.underlying22 hi hz0 hz1 hz2 rfl (.tmp 8) (.tmp 10) rfl w2.heap.size g2 HG2.out F2.out rfl ka kn kc (Ss ks) rfl (show (Ss ks).length = kn by rw [len_Ss, HKn.out]) (HQ.out.keys.adds (HA2.out.trans hS)) HQ.out.kn (one_Ss ks) HK9.out (by decide) ?_
          intro a5 c5 W4 r1 hA
          refine hK _ _ (fun _ => Touch.trans hS hA) ?_
          simp only [Act.put, List.setIfInBounds_toArray, List.set_cons_zero, List.set_cons_succ]
          have F5 := hid r1
          replace hS : (fun W : World => Adds w2 W) W4 := Touch.trans hS hA
          replace F11 := hid (box_adds F11.out hA)
          replace F2 := hid (box_adds F2.out hA)
          replace F6 := hid (box_adds F6.out hA)
          clear hA r1 hi hz0 hz1 hz2
          refine Pe_all (rs := [9]) (by kernel_rfl) (by simp) (fun jj hj => ?_)
          obtain rfl := List.mem_singleton.1 hj
          obtain ⟨i0, hi, hz0, hz1, hz2⟩ := infoEI
          refine EO_do (some 15) rfl rfl rfl (fun K' hK => ?_)
          refine wp_append_lit 24 3 i0 (.int .i64 0) 8 Try.underlying24 hi hz0 hz1 hz2 rfl (.tmp 12) (.tmp 14) rfl w2.heap.size g6 HG6.out F6.out rfl ia zn ic (Is zs) rfl (show (Is zs).length = zn by rw [len_Is, HZn.out]) (HQ.out.kids.adds (HA2.out.trans hS)) HQ.out.inn (one_Is zs) HZ9.out (by decide) ?_
          intro a9 c9 W5 r1 hA
          refine hK _ _ (fun _ => Touch.trans hS hA) ?_
          simp only [Act.put, List.setIfInBounds_toArray, List.set_cons_zero, List.set_cons_succ]
          have F9 := hid r1
          replace hS : (fun W : World => Adds w2 W) W5 := Touch.trans hS hA
          replace F11 := hid (box_adds F11.out hA)
          replace F2 := hid (box_adds F2.out hA)
          replace F6 := hid (box_adds F6.out hA)
          replace F5 := hid (row_touch F5.out hA (fun _ _ => id))
          clear hA r1 hi hz0 hz1 hz2
          refine Pe_put (i := 10) 16 (v := .agg #[.bool leaf, .slice a5 kn c5, .slice none 0 0, .slice a9 zn c9]) rfl rfl (by kernel_rfl) (by kernel_rfl) (by kernel_rfl) (by kernel_rfl) (fun _ _ _ h => h) (Or.inl ⟨by rfl, fun w' hw' => ?_⟩) hS ?_
          · go_simp
          simp only [Act.put, List.setIfInBounds_toArray, List.set_cons_zero, List.set_cons_succ]
          refine Pe_do (i := 12) none (by kernel_rfl) rfl rfl rfl (fun K' hK => ?_)
          refine Go.wp_store_row 28 _ _ rfl g11 #[.bool leaf, .slice a5 kn c5, .slice none 0 0, .slice a9 zn c9] rfl rfl 28 _ F11.out (info4 _ _ _ _) rfl (one4 _ _ _ _ _ _ _ _ _ _) ?_
          refine hK _ _ (fun h => absurd rfl h) (Pe_done (by kernel_rfl) ?_ _)
          have HEnd := hid (pc_made (leaf := leaf) (Touch.refl _ w2) hS HG11.out F11.out F5.out F9.out HKn.out HZn.out)
          clear hS
          simp only [Act.put]
          go_wp2
          go_meet
          case rel => exact ⟨g11, a5, c5, a9, c9, rfl, HEnd⟩
      · refine EO_value 12 (v := .slice (some ⟨W1.heap.size, 0, none⟩) 0 0) (w' := W1.alloc (.cells #[] 3)) rfl rfl (by rfl) (by go_simp) (Touch.alloc hS _) ?_
        simp only [Act.put, List.setIfInBounds_toArray, List.set_cons_zero, List.set_cons_succ]
        obtain ⟨g6, hg6⟩ : ∃ g, g = W1.heap.size := ⟨_, rfl⟩
        obtain ⟨W2, hW2⟩ : ∃ W, W = W1.alloc (.cells #[] 3) := ⟨_, rfl⟩
        have hA : Adds W1 W2 := by rw [hW2]; exact (Touch.refl _ _).alloc _
        have F6 := hid (show W2.heap[g6]? = some (.cells #[] 3) by rw [hW2, hg6]; exact heap_alloc_new _ _)
        have HG6 := hid (show w2.heap.size ≤ g6 by rw [hg6]; exact hS.size)
        rw [← hg6, ← hW2]
        replace hS : (fun W : World => Adds w2 W) W2 := Touch.trans hS hA
        replace F11 := hid (box_adds F11.out hA)
        clear hA hg6 hW2
        refine Pe_all (rs := [2]) (by kernel_rfl) (by simp) (fun jj hj => ?_)
        obtain rfl := List.mem_singleton.1 hj
        refine EO_value 8 (v := .slice (some ⟨W2.heap.size, 0, none⟩) 0 0) (w' := W2.alloc (.cells #[] 9)) rfl rfl (by rfl) (by go_simp) (Touch.alloc hS _) ?_
        simp only [Act.put, List.setIfInBounds_toArray, List.set_cons_zero, List.set_cons_succ]
        obtain ⟨g2, hg2⟩ : ∃ g, g = W2.heap.size := ⟨_, rfl⟩
        obtain ⟨W3, hW3⟩ : ∃ W, W = W2.alloc (.cells #[] 9) := ⟨_, rfl⟩
        have hA : Adds W2 W3 := by rw [hW3]; exact (Touch.refl _ _).alloc _
        have F2 := hid (show W3.heap[g2]? = some (.cells #[] 9) by rw [hW3, hg2]; exact heap_alloc_new _ _)
        have HG2 := hid (show w2.heap.size ≤ g2 by rw [hg2]; exact hS.size)
        rw [← hg2, ← hW3]
        replace hS : (fun W : World => Adds w2 W) W3 := Touch.trans hS hA
        replace F11 := hid (box_adds F11.out hA)
        replace F6 := hid (box_adds F6.out hA)
        clear hA hg2 hW3
        refine Pe_all (rs := [5]) (by kernel_rfl) (by simp) (fun jj hj => ?_)
        obtain rfl := List.mem_singleton.1 hj
        obtain ⟨i0, hi, hz0, hz1, hz2⟩ := infoES
        refine EO_do (some 11) rfl rfl rfl (fun K' hK => ?_)
        refine wp_append_lit 22 9 i0 (.string ⟨#[]⟩) 16 Try.underlying22 hi hz0 hz1 hz2 rfl (.tmp 8) (.tmp 10) rfl w2.heap.size g2 HG2.out F2.out rfl ka kn kc (Ss ks) rfl (show (Ss ks).length = kn by rw [len_Ss, HKn.out]) (HQ.out.keys.adds (HA2.out.trans hS)) HQ.out.kn (one_Ss ks) HK9.out (by decide) ?_
        intro a5 c5 W4 r1 hA
        refine hK _ _ (fun _ => Touch.trans hS hA) ?_
        simp only [Act.put, List.setIfInBounds_toArray, List.set_cons_zero, List.set_cons_succ]
        have F5 := hid r1
        replace hS : (fun W : World => Adds w2 W) W4 := Touch.trans hS hA
        replace F11 := hid (box_adds F11.out hA)
        replace F6 := hid (box_adds F6.out hA)
        replace F2 := hid (box_adds F2.out hA)
        clear hA r1 hi hz0 hz1 hz2
        refine Pe_all (rs := [9]) (by kernel_rfl) (by simp) (fun jj hj => ?_)
        obtain rfl := List.mem_singleton.1 hj
        obtain ⟨i0, hi, hz0, hz1, hz2⟩ := infoEI
        refine EO_do (some 15) rfl rfl rfl (fun K' hK => ?_)
        refine wp_append_lit 24 3 i0 (.int .i64 0) 8 Try.underlying24 hi hz0 hz1 hz2 rfl (.tmp 12) (.tmp 14) rfl w2.heap.size g6 HG6.out F6.out rfl ia zn ic (Is zs) rfl (show (Is zs).length = zn by rw [len_Is, HZn.out]) (HQ.out.kids.adds (HA2.out.trans hS)) HQ.out.inn (one_Is zs) HZ9.out (by decide) ?_
        intro a9 c9 W5 r1 hA
        refine hK _ _ (fun _ => Touch.trans hS hA) ?_
        simp only [Act.put, List.setIfInBounds_toArray, List.set_cons_zero, List.set_cons_succ]
        have F9 := hid r1
        replace hS : (fun W : World => Adds w2 W) W5 := Touch.trans hS hA
        replace F11 := hid (box_adds F11.out hA)
        replace F6 := hid (box_adds F6.out hA)
        replace F2 := hid (box_adds F2.out hA)
        replace F5 := hid (row_touch F5.out hA (fun _ _ => id))
        clear hA r1 hi hz0 hz1 hz2
        refine Pe_put (i := 10) 16 (v := .agg #[.bool leaf, .slice a5 kn c5, .slice none 0 0, .slice a9 zn c9]) rfl rfl (by kernel_rfl) (by kernel_rfl) (by kernel_rfl) (by kernel_rfl) (fun _ _ _ h => h) (Or.inl ⟨by rfl, fun w' hw' => ?_⟩) hS ?_
        · go_simp
        simp only [Act.put, List.setIfInBounds_toArray, List.set_cons_zero, List.set_cons_succ]
        refine Pe_do (i := 12) none (by kernel_rfl) rfl rfl rfl (fun K' hK => ?_)
        refine Go.wp_store_row 28 _ _ rfl g11 #[.bool leaf, .slice a5 kn c5, .slice none 0 0, .slice a9 zn c9] rfl rfl 28 _ F11.out (info4 _ _ _ _) rfl (one4 _ _ _ _ _ _ _ _ _ _) ?_
        refine hK _ _ (fun h => absurd rfl h) (Pe_done (by kernel_rfl) ?_ _)
        have HEnd := hid (pc_made (leaf := leaf) (Touch.refl _ w2) hS HG11.out F11.out F5.out F9.out HKn.out HZn.out)
        clear hS
        simp only [Act.put]
        go_wp2
        go_meet
        case rel => exact ⟨g11, a5, c5, a9, c9, rfl, HEnd⟩
  case rest =>
    obtain ⟨N5, a5, c5, a9, c9, rfl, HP0⟩ := hcut
    obtain ⟨_, _, x2, _⟩ := box_cells (box_adds HB0.out HP0.out.adds)
    go_upto_region 3 with fail
    clear x2
    go_loopw [20] (fun t wx => ∃ (i : Nat) (a7 : Option Addr) (c7 : Nat) (hs : List Part), i ≤ vn ∧ t = .int .i64 (i : Int) ∧ Hid (Pc w2 wx N5 leaf ⟨leaf, a5, c5, ks, ⟨a7, c7, hs⟩, a9, c9, zs⟩ ∧ hs.map (·.bs) = g.bs.take i)) (fun t _ => vn - (intOf t).toNat)
    case atStart => exact ⟨0, none, 0, [], Nat.zero_le _, rfl, HP0.out, rfl⟩
    case round =>
      obtain ⟨i, a7, c7, hs, hi, rfl, HI⟩ := hrel
      by_cases hlt : i < vn
      · have hlz : (i : Int) < (vn : Int) := by omega
        have hi1 : i < g.l.length := by rw [← HVn.out]; exact hlt
        obtain ⟨b, o, ea, hc0⟩ := HQ.out.vals.cell hi1
        obtain ⟨p, hp⟩ : ∃ p, p = g.l[i] := ⟨_, rfl⟩
        have hq := (HQ.out.vals.all _ (List.getElem_mem hi1))
        rw [← hp] at hq
        have HPq := hid hq
        have HM9 := hid (show p.bs.length * 1 ≤ 140737488355328 from HVs.out p (by rw [hp]; exact List.getElem_mem hi1))
        obtain ⟨m, hm⟩ : ∃ m, m = p.bs.length := ⟨_, rfl⟩
        obtain ⟨pa, hpa⟩ : ∃ a, a = p.a := ⟨_, rfl⟩
        obtain ⟨pc, hpc⟩ : ∃ a, a = p.cap := ⟨_, rfl⟩
        have hc : wr.cell? ⟨b, o + i, none⟩ = some (.slice pa m pc) := by rw [hm, hpa, hpc, hp]; exact below_adds (HA2.out.trans HI.out.1.adds) hc0
        have HBs := hid (show g.bs.take (i + 1) = g.bs.take i ++ [p.bs] by
          rw [List.take_add_one, Pl.bs, List.getElem?_map, List.getElem?_eq_getElem hi1, ← hp]; rfl)
        have ea' : ga = some ⟨b, o, none⟩ := by rw [HGa.out]; exact ea
        rw [ea']
        have HM := hid hm
        have HPa := hid hpa
        have HPc := hid hpc
        obtain ⟨hl, hhl⟩ : ∃ n, n = hs.length := ⟨_, rfl⟩
        have HHl := hid hhl
        have HHl9 := hid (show (hl + 1) * 24 ≤ 140737488355328 by
          have q := congrArg List.length HI.out.2
          rw [List.length_map, List.length_take] at q
          have := HV9.out
          omega)
        have HBx := hid (show wr.heap[N5]? = some (.cells #[.bool leaf, .slice a5 kn c5, .slice a7 hl c7, .slice a9 zn c9] 28 (0, 0)) by rw [hhl, HKn.out, HZn.out]; exact HI.out.1.box)
        clear hc0 hp hm hpa hpc ea ea' hi1 hq hhl
        go_upto_region 5 with fail
        clear hc
        refine Pe_begin (S := fun W : World => W.heap[N5]? = some (.cells #[.bool leaf, .slice a5 kn c5, .slice a7 hl c7, .slice a9 zn c9] 28 (0, 0))) (X := 8) (by kernel_rfl) ?_
        have hS : (fun W : World => W.heap[N5]? = some (.cells #[.bool leaf, .slice a5 kn c5, .slice a7 hl c7, .slice a9 zn c9] 28 (0, 0))) wr.drew := HBx.out
        refine Pe_put (i := 0) 24 (v := .pointer (some ⟨N5, 2, none⟩)) rfl rfl (by kernel_rfl) (by kernel_rfl) (by kernel_rfl) (by kernel_rfl) (fun _ _ _ h => h) (Or.inl ⟨by rfl, fun w' hw' => ?_⟩) hS ?_
        · go_simp
        simp only [Act.put, List.setIfInBounds_toArray, List.set_cons_zero, List.set_cons_succ]
        refine Pe_put (i := 1) 25 (v := .slice a7 hl c7) rfl rfl (by kernel_rfl) (by kernel_rfl) (by kernel_rfl) (by kernel_rfl) (fun _ _ _ h => h) (Or.inl ⟨by rfl, fun w' hw' => ?_⟩) hS ?_
        · (have c := cellOf hw' 2; clear hw'; go_simp)
        simp only [Act.put, List.setIfInBounds_toArray, List.set_cons_zero, List.set_cons_succ]
        refine Pe_put (i := 3) 27 (v := .slice pa m pc) rfl rfl (by kernel_rfl) (by kernel_rfl) (by kernel_rfl) (by kernel_rfl) (fun _ _ _ h => h) (Or.inl ⟨by rfl, fun w' hw' => ?_⟩) hS ?_
        · go_simp
        simp only [Act.put, List.setIfInBounds_toArray, List.set_cons_zero, List.set_cons_succ]
        refine Pe_all (rs := [2]) (by kernel_rfl) (by simp) (fun jj hj => ?_)
        obtain rfl := List.mem_singleton.1 hj
        refine EO_value 26 (v := .slice (some ⟨wr.heap.size, 0, none⟩) 0 0) (w' := wr.drew.alloc (.cells #[] 5)) rfl rfl (by rfl) (by go_simp) (box_adds hS ((Touch.refl _ _).alloc _)) ?_
        simp only [Act.put, List.setIfInBounds_toArray, List.set_cons_zero, List.set_cons_succ]
        obtain ⟨g6, hg6⟩ : ∃ g, g = wr.heap.size := ⟨_, rfl⟩
        obtain ⟨wa, hwa⟩ : ∃ W, W = wr.drew.alloc (.cells #[] 5) := ⟨_, rfl⟩
        have hA : Adds wr wa := by rw [hwa]; exact (adds_dr wr).alloc _
        have F6 := hid (show wa.heap[g6]? = some (.cells #[] 5) by rw [hwa, hg6]; exact heap_alloc_new wr.drew _)
        have HG6 := hid (show w2.heap.size ≤ g6 by rw [hg6]; exact HI.out.1.adds.size)
        rw [← hg6, ← hwa]
        have HPa1 := hid (HI.out.1.more hA)
        replace hS : (fun W : World => W.heap[N5]? = some (.cells #[.bool leaf, .slice a5 kn c5, .slice a7 hl c7, .slice a9 zn c9] 28 (0, 0))) wa := box_adds HBx.out hA
        clear hA hg6 hwa
        obtain ⟨i5, hi5, hz5, hs5, hb5⟩ := info5all
        refine Pe_do (i := 4) (some 28) (by kernel_rfl) rfl rfl rfl (fun K' hK => ?_)
        refine wp_append_lit 30 5 i5 (.int .u8 0) 1 Try.underlying30 hi5 hz5 hs5 hb5 rfl (.tmp 26) (.tmp 27) rfl w2.heap.size g6 HG6.out F6.out rfl pa m pc (S p.bs) rfl (by rw [length_S, HM.out]) (by rw [HPa.out]; exact (HPq.out.adds (HA2.out.trans HPa1.out.adds)).at_) (by rw [HPa.out, HPc.out]; exact HPq.out.non) (one_S _) (by rw [HM.out]; exact HM9.out) (by decide) ?_
        intro a8 c8 wb r1 hA
        have HPa2 := hid (HPa1.out.more hA)
        have HPt := hid (show PT wb w2.heap.size ⟨a8, p.bs, c8⟩ from PT.row (by have := HM.out; subst this; exact r1))
        have hS2 : (fun W : World => W.heap[N5]? = some (.cells #[.bool leaf, .slice a5 kn c5, .slice a7 hl c7, .slice a9 zn c9] 28 (0, 0))) wb := box_adds hS hA
        refine hK _ _ (fun _ => hS2) ?_
        clear hS hA r1 hi5 hz5 hs5 hb5
        have hS := hS2
        clear hS2
        simp only [Act.put, List.setIfInBounds_toArray, List.set_cons_zero, List.set_cons_succ]
        refine Pe_all (rs := [5]) (by kernel_rfl) (by simp) (fun jj hj => ?_)
        obtain rfl := List.mem_singleton.1 hj
        refine EO_value 29 (v := .slice (some ⟨wb.heap.size, 0, none⟩) 1 1) (w' := wb.alloc (.cells #[.slice a8 m c8] 30)) rfl rfl (by rfl) (by go_simp) (box_adds hS ((Touch.refl _ _).alloc _)) ?_
        simp only [Act.put, List.setIfInBounds_toArray, List.set_cons_zero, List.set_cons_succ]
        obtain ⟨g9, hg9⟩ : ∃ g, g = wb.heap.size := ⟨_, rfl⟩
        obtain ⟨wd, hwd⟩ : ∃ W, W = wb.alloc (.cells #[.slice a8 m c8] 30) := ⟨_, rfl⟩
        have hA : Adds wb wd := by rw [hwd]; exact (Touch.refl _ _).alloc _
        have F9 := hid (show wd.heap[g9]? = some (.cells #[.slice a8 m c8] 30) by rw [hwd, hg9]; exact heap_alloc_new wb _)
        rw [← hg9, ← hwd]
        have HPa3 := hid (HPa2.out.more hA)
        have HPt3 := hid (HPt.out.adds hA)
        replace hS : (fun W : World => W.heap[N5]? = some (.cells #[.bool leaf, .slice a5 kn c5, .slice a7 hl c7, .slice a9 zn c9] 28 (0, 0))) wd := box_adds hS hA
        clear hA hg9 hwd
        obtain ⟨i5, hi5, hz5, hs5, hb5⟩ := infoEB
        refine Pe_do (i := 6) (some 30) (by kernel_rfl) rfl rfl rfl (fun K' hK => ?_)
        refine wp_append_own _ (.tmp 25) (.tmp 29) 23 rfl w2.heap.size 30 i5 (.slice none 0 0) 1 24 Try.underlying23 hi5 hz5 hs5 hb5 rfl (by decide) (.slice a7 hl c7) hl (hs.map PV) rfl (by have q := HPa3.out.own.vals; have e := HHl.out; subst e; exact q) ⟨g9, 0, none⟩ 1 1 [.slice a8 m c8] rfl rfl (fun j y hj => by
          match j, hj with
          | 0, hj => obtain rfl := Option.some.inj hj; rw [Addr.add_mid]; exact cellOf F9.out 0) (fun y hy => by rw [List.mem_singleton.1 hy]; rfl) (by unfold maxLen; have := HHl9.out; omega) (by have := HHl9.out; omega) HPa3.out.adds.size ?_
        intro v9 w9 r1 r2 _
        have r2' : Touch (fun j => (Value.slice a7 hl c7).ownBlock = some j) wd w9 := ⟨r2.os, r2.tape, r2.output, r2.size, fun k hk hne => r2.block k hk (fun c => hne c.symm)⟩
        obtain ⟨b7, d7, hv9, hbx9, hpz⟩ := HPa3.out.value (y := ⟨a8, p.bs, c8⟩) HPt3.out (v' := v9) (by have e := HHl.out; have e2 := HM.out; subst e; subst e2; exact r1) (by have e := HHl.out; subst e; exact r2')
        have HPz := hid hpz
        have e9 : v9 = .slice b7 (hl + 1) d7 := by rw [hv9, HHl.out]
        clear hv9
        subst e9
        have HBx9 := hid (show w9.heap[N5]? = some (.cells #[.bool leaf, .slice a5 kn c5, .slice a7 hl c7, .slice a9 zn c9] 28 (0, 0)) by rw [HHl.out, HKn.out, HZn.out]; exact hbx9)
        refine hK _ _ (fun _ => HBx9.out) ?_
        clear hS r1 r2 r2' hpz hbx9 hi5 hz5 hs5 hb5
        have hS : (fun W : World => W.heap[N5]? = some (.cells #[.bool leaf, .slice a5 kn c5, .slice a7 hl c7, .slice a9 zn c9] 28 (0, 0))) w9 := HBx9.out
        simp only [Act.put, List.setIfInBounds_toArray, List.set_cons_zero, List.set_cons_succ]
        refine Pe_put (i := 7) 31 (v := .pointer (some ⟨N5, 2, none⟩)) rfl rfl (by kernel_rfl) (by kernel_rfl) (by kernel_rfl) (by kernel_rfl) (fun _ _ _ h => h) (Or.inl ⟨by rfl, fun w' hw' => ?_⟩) hS ?_
        · go_simp
        simp only [Act.put, List.setIfInBounds_toArray, List.set_cons_zero, List.set_cons_succ]
        have q1 := box_free HBx9.out 2
        have q3 := cellOf HBx9.out 2
        refine Pe_do (i := 8) none (by kernel_rfl) rfl rfl rfl (fun K' hK => ?_)
        clear hS
        go_simp
        refine hK undef _ (fun h => absurd rfl h) (Pe_done (by kernel_rfl) ?_ _)
        clear q1 q3
        simp only [Act.put]
        have v9 := HV9.out
        go_wp2
        go_roundw
        case rel => exact ⟨i + 1, b7, d7, hs ++ [⟨a8, p.bs, c8⟩], by omega, by go_num, HPz.out, by rw [List.map_append, HI.out.2, HBs.out]; rfl⟩
        case measure => simp [intOf]; omega
      · obtain rfl : i = vn := by omega
        have hlz : ¬ (i : Int) < (i : Int) := by omega
        have HZ6 := hid (box_adds HB1.out HI.out.1.adds)
        obtain ⟨hl, hhl⟩ : ∃ n, n = hs.length := ⟨_, rfl⟩
        have HBx := hid (show wr.heap[N5]? = some (.cells #[.bool leaf, .slice a5 kn c5, .slice a7 hl c7, .slice a9 zn c9] 28 (0, 0)) by rw [hhl, HKn.out, HZn.out]; exact HI.out.1.box)
        have HHl := hid hhl
        clear hhl
        go_wp2_with (first
          | (refine wpList_load_row rfl 28 _ rfl N5 rfl 28 _ _ _ HBx.out Try.underlying28 rfl (info4 _ _ _ _) ?_)
          | (refine wpList_store_row rfl 28 _ _ rfl N1 #[.bool leaf, .slice a5 kn c5, .slice a7 hl c7, .slice a9 zn c9] rfl rfl 28 _ HZ6.out (info4 _ _ _ _) rfl (one4 _ _ _ _ _ _ _ _ _ _) ?_))
        refine bodyPost_ret (results_n1 rfl _ _ N1 _ rfl (setRow_heap wr N1 _ _ 28 _ HZ6.out) rfl) rfl ?_
        have hA7 : Adds w (wr.setRow N1 #[.bool leaf, .slice a5 kn c5, .slice a7 hl c7, .slice a9 zn c9]) := Touch.setRow (T := fun _ => False) (HA2.out.trans HI.out.1.adds) (fun c => absurd c (by have := HL.out; omega)) _
        refine ⟨⟨leaf, a5, c5, ks, ⟨a7, c7, hs⟩, a9, c9, zs⟩, ?_, ?_, ?_, hA7⟩
        · have e1 := HHl.out
          have e2 := HKn.out
          have e3 := HZn.out
          subst e1 e2 e3
          rfl
        · show (⟨leaf, ks, hs.map (·.bs), zs⟩ : N.Nd) = ⟨leaf, ks, g.bs, zs⟩
          rw [HI.out.2, List.take_of_length_le (by rw [Pl.bs, List.length_map, HVn.out]; exact Nat.le_refl _)]
        · have hT : Touch (fun j => j = N1) wr (wr.setRow N1 #[.bool leaf, .slice a5 kn c5, .slice a7 hl c7, .slice a9 zn c9]) := Touch.setRow (T := fun j => j = N1) (Touch.refl _ _) (fun _ => rfl) _
          have q := HI.out.1.own
          refine NOwn.lower ⟨row_touch q.keys hT (fun j hj c => row_ne q.keys HZ6.out (by decide) hj c), row_touch q.vals hT (fun j hj c => row_ne q.vals HZ6.out (by decide) hj c), fun p hp => (q.each p hp).touch hT (fun k hk cs fr e => ?_), row_touch q.kids hT (fun j hj c => row_ne q.kids HZ6.out (by decide) hj c)⟩ HA2.out.size
          subst hk
          have := HZ6.out
          rw [this] at e
          injection e with e1
          injection e1 with _ e2 _
          exact absurd e2 (by decide)
end Go.Proofs.Ytplppnngmlljnaa

/- A cell taken out. -/
namespace Go.Proofs.Ytplppnngmlljnaa
open Go.RowKit

/-- How great a node is. -/
structure N.Bd (m : Nat) (n : N.Nd) : Prop where
  k : n.keys.length ≤ m
  v : n.vals.length ≤ m
  i : n.kids.length ≤ m
  kl : ∀ b ∈ n.keys, b.length ≤ 1000
  vl : ∀ b ∈ n.vals, b.length ≤ 1000
theorem N.Bd.mono {m m' : Nat} {n : N.Nd} (h : N.Bd m n) (hm : m ≤ m') : N.Bd m' n := ⟨Nat.le_trans h.k hm, Nat.le_trans h.v hm, Nat.le_trans h.i hm, h.kl, h.vl⟩
theorem N.Bd.ns {m : Nat} {x : NM} (h : N.Bd m x.nd) (hm : m ≤ 1000) : NS x := by
  have e : x.v.bs.length = x.v.l.length := List.length_map _
  exact ⟨Nat.le_trans h.k hm, by rw [← e]; exact Nat.le_trans h.v hm, Nat.le_trans h.i hm, h.kl, fun p hp => h.vl p.bs (List.mem_map.2 ⟨p, hp, rfl⟩)⟩
theorem bd_mid {α : Type} {l l' : List α} {i j m m' : Nat} (h : l.length ≤ m) (h' : l'.length ≤ m') (hij : i ≤ j) : (l.take i ++ (l' ++ l.drop j)).length ≤ m + m' := by
  rw [List.length_append, List.length_append, List.length_take, List.length_drop]; omega
theorem bd_mem {α : Type} {l l' : List α} {i j : Nat} {P : α → Prop} (h : ∀ x ∈ l, P x) (h' : ∀ x ∈ l', P x) : ∀ x ∈ l.take i ++ (l' ++ l.drop j), P x := fun x hx => by
  rcases List.mem_append.1 hx with hx | hx
  · exact h x (List.mem_of_mem_take hx)
  · rcases List.mem_append.1 hx with hx | hx
    · exact h' x hx
    · exact h x (List.mem_of_mem_drop hx)
theorem N.Bd.change {m m' i j : Nat} {n y : N.Nd} (h : N.Bd m n) (hy : N.Bd m' y) (hij : i ≤ j) : N.Bd (m + m') (N.change n i j y) := by
  refine ⟨bd_mid h.k hy.k hij, ?_, ?_, bd_mem h.kl hy.kl, ?_⟩
  · show (if n.leaf then _ else []).length ≤ _
    split
    · exact bd_mid h.v hy.v hij
    · exact Nat.zero_le _
  · show (if n.leaf then [] else _).length ≤ _
    split
    · exact Nat.zero_le _
    · exact bd_mid h.i hy.i hij
  · show ∀ b ∈ (if n.leaf then _ else []), _
    split
    · exact bd_mem h.vl hy.vl
    · intro b hb; cases hb
theorem N.Bd.nil : N.Bd 0 N.nil := ⟨Nat.le_refl _, Nat.le_refl _, Nat.le_refl _, fun b hb => (by cases hb), fun b hb => (by cases hb)⟩
theorem N.Bd.first {m : Nat} {n : N.Nd} (h : N.Bd m n) : N.Bd m (N.first n) := by
  unfold N.first
  split
  · rename_i hc
    refine ⟨?_, h.v, h.i, fun b hb => ?_, h.vl⟩
    · show ([] :: n.keys.tail).length ≤ m
      rw [List.length_cons, List.length_tail]
      have := h.k
      omega
    · rcases List.mem_cons.1 hb with rfl | hb
      · exact Nat.zero_le _
      · exact h.kl b (List.mem_of_mem_tail hb)
  · exact h
theorem N.Bd.without {m i j : Nat} {n : N.Nd} (h : N.Bd m n) (hij : i ≤ j) : N.Bd m (N.without n i j) := by
  have := h.change N.Bd.nil hij
  exact this.first
theorem N.Bd.told {m : Nat} {n : N.Nd} (h : N.Bd m n) : N.Bd m (N.told n).1 := by
  unfold N.told
  split
  · exact h
  · exact N.Bd.nil.mono (Nat.zero_le _)
theorem PWhole.op {w : World} {x : NM} {e : Ending} {w' : World} (h : PWhole w x e w') {B : Nat} (ho : NOwn w' B x) : ∃ leaf ka kc ks va vc, ∃ hs : List Part, ∃ ia ic zs, e = .returned (.tuple #[.agg #[.bool leaf, .slice ka ks.length kc, .slice va hs.length vc, .slice ia zs.length ic], .int .i64 ((N.told x.nd).2 : Int)]) ∧ Hid ((⟨leaf, ks, hs.map (·.bs), zs⟩ : N.Nd) = (N.told x.nd).1 ∧ NOwn w' B ⟨leaf, ka, kc, ks, ⟨va, vc, hs⟩, ia, ic, zs⟩ ∧ Adds w w') := by
  obtain ⟨rfl, hA⟩ := h
  by_cases hr : N.right x.nd = true
  · rw [if_pos hr]
    exact ⟨x.leaf, x.ka, x.kc, x.ks, x.v.a, x.v.cap, x.v.l, x.ia, x.ic, x.is, rfl, by rw [N.told, if_pos hr]; rfl, ho, hA.out⟩
  · rw [if_neg hr]
    exact ⟨false, none, 0, [], none, 0, [], none, 0, [], rfl, by rw [N.told, if_neg hr]; rfl, NOwn.none _ _, hA.out⟩
/-- whole, of what a call made. -/
theorem whole_made {w1 w2 : World} {n : N.Nd} {leaf : Bool} {ka : Option Addr} {kc : Nat} {ks : List (List UInt8)} {va : Option Addr} {vc : Nat} {hs : List Part} {ia : Option Addr} {ic : Nat} {zs : List Int} {B : Nat} (hz : (⟨leaf, ks, hs.map (·.bs), zs⟩ : N.Nd) = n) (ho : NOwn w2 B ⟨leaf, ka, kc, ks, ⟨va, vc, hs⟩, ia, ic, zs⟩) (hb : N.Bd 1000 n) (hB : w1.heap.size ≤ B) :
    Calls Try.prog 50 #[.agg #[.bool leaf, .slice ka ks.length kc, .slice va hs.length vc, .slice ia zs.length ic]] w2 (fun e w' => ∃ leaf ka kc ks va vc, ∃ hs : List Part, ∃ ia ic zs, e = .returned (.tuple #[.agg #[.bool leaf, .slice ka ks.length kc, .slice va hs.length vc, .slice ia zs.length ic], .int .i64 ((N.told n).2 : Int)]) ∧ Hid ((⟨leaf, ks, hs.map (·.bs), zs⟩ : N.Nd) = (N.told n).1 ∧ NOwn w' w1.heap.size ⟨leaf, ka, kc, ks, ⟨va, vc, hs⟩, ia, ic, zs⟩ ∧ Adds w2 w')) := by
  have q := nwhole_any ⟨leaf, ka, kc, ks, ⟨va, vc, hs⟩, ia, ic, zs⟩ w2 ho.nq (N.Bd.ns (m := 1000) (by rw [show NM.nd ⟨leaf, ka, kc, ks, ⟨va, vc, hs⟩, ia, ic, zs⟩ = n from hz]; exact hb) (Nat.le_refl _))
  refine q.mono (fun e w' h => ?_)
  have h2 := PWhole.op h ((ho.lower hB).adds h.2.out)
  rw [show NM.nd ⟨leaf, ka, kc, ks, ⟨va, vc, hs⟩, ia, ic, zs⟩ = n from hz] at h2
  exact h2
/-- A node that may be is not too great to be turned. -/
theorem right_len {x : NM} (h : N.right x.nd = true) : (x.leaf = true → x.v.l.length = x.ks.length) ∧ (x.leaf = false → x.is.length = x.ks.length) := by
  rcases (right_parts h).2 with ⟨q0, q1, _⟩ | ⟨q0, q1, _⟩
  · exact ⟨fun _ => by rw [← show x.v.bs.length = x.v.l.length from List.length_map _]; exact q1, fun c => by rw [show x.leaf = true from q0] at c; cases c⟩
  · exact ⟨(fun c => by rw [show x.leaf = false from q0] at c; cases c), fun _ => q1⟩
set_option maxRecDepth 100000 in
set_option maxHeartbeats 8000000 in
theorem nremove_any (x : NM) (i : Int) (w : World) {Q : Nat → Prop} (hx : NQ w Q x) (hb : N.Bd 900 x.nd) : Calls Try.prog 27 #[x.val, .int .i64 i] w (PTnode w (N.remove x.nd i)) := by
  have sx := hb.ns (by decide)
  obtain ⟨N0, N1, w2, hN0, hN1, hw2, HA2, HB0, HB1, HL⟩ := nopen w #[.bool x.leaf, .slice x.ka x.ks.length x.kc, .slice x.v.a x.v.l.length x.v.cap, .slice x.ia x.is.length x.ic]
  obtain ⟨r, hr⟩ : ∃ r, r = N.right x.nd := ⟨_, rfl⟩
  have HC := hid (show Calls Try.prog 15 #[x.val] w2 (Adding (.bool r) w2) by rw [hr]; exact nright_any x w2 (hx.adds HA2.out) sx)
  have HR := hid hr
  have HX := hid hx
  have HSx := hid sx
  have HBd := hid hb
  obtain ⟨kn, hkn⟩ : ∃ kn, kn = x.ks.length := ⟨_, rfl⟩
  have hk9 : kn ≤ 900 := by rw [hkn]; exact hb.k
  have HKn := hid hkn
  have hv : x.val = .agg #[.bool x.leaf, .slice x.ka kn x.kc, .slice x.v.a x.v.l.length x.v.cap, .slice x.ia x.is.length x.ic] := by rw [hkn]
  have HV := hid hv
  rw [hv] at HC ⊢
  rw [← hkn] at hw2 HB0
  clear hx sx hb hr hkn hv
  go_enter Try.func27, Try.ntmps27
  go_upto_region 1 with fail
  rw [← hw2, ← hN0, ← hN1]
  clear hw2 hN0 hN1
  obtain ⟨c0, c1, c2, c3⟩ := box_cells HB0.out
  cases r with
  | false =>
    have HE := hid (show N.remove x.nd i = (N.nil, 22) by unfold N.remove; rw [← HR.out]; rfl)
    go_upto_region 2 with (go_at_call 15; refine HC.out.mono ?_; rintro e w3 ⟨rfl, hA3⟩; have H3 := hid hA3; clear hA3)
    clear c0 c1 c2 c3
    have HB3 := hid (box_adds HB1.out H3.out)
    go_wp2_with (refine wpList_store_row rfl 28 _ _ rfl N1 #[.bool false, .slice .none 0 0, .slice .none 0 0, .slice .none 0 0] rfl rfl 28 _ HB3.out (info4 _ _ _ _) rfl (one4 _ _ _ _ _ _ _ _ _ _) ?_)
    refine bodyPost_ret (results_n2 rfl _ _ N1 _ rfl (setRow_heap w3 N1 _ _ 28 _ HB3.out) rfl) rfl ?_
    rw [HE.out]
    exact ptnode_end (z := NM.none) rfl rfl (NOwn.none _ _) (HA2.out.trans H3.out) HB3.out HL.out _
  | true =>
    by_cases hin : i < 0 ∨ (kn : Int) ≤ i
    · have HE := hid (show N.remove x.nd i = (N.nil, 40) by unfold N.remove; rw [← HR.out, if_neg (by decide), if_pos (by rw [show x.nd.keys.length = kn from HKn.out.symm]; exact hin)])
      by_cases h0 : i < 0
      · clear hin
        go_upto_region 4 with (go_at_call 15; refine HC.out.mono ?_; rintro e w3 ⟨rfl, hA3⟩; have H3 := hid hA3; clear hA3)
        clear c0 c1 c2 c3
        have HB3 := hid (box_adds HB1.out H3.out)
        go_wp2_with (refine wpList_store_row rfl 28 _ _ rfl N1 #[.bool false, .slice .none 0 0, .slice .none 0 0, .slice .none 0 0] rfl rfl 28 _ HB3.out (info4 _ _ _ _) rfl (one4 _ _ _ _ _ _ _ _ _ _) ?_)
        refine bodyPost_ret (results_n2 rfl _ _ N1 _ rfl (setRow_heap w3 N1 _ _ 28 _ HB3.out) rfl) rfl ?_
        rw [HE.out]
        exact ptnode_end (z := NM.none) rfl rfl (NOwn.none _ _) (HA2.out.trans H3.out) HB3.out HL.out _
      · have h1 : (kn : Int) ≤ i := hin.resolve_left h0
        clear hin
        go_upto_region 4 with (go_at_call 15; refine HC.out.mono ?_; rintro e w3 ⟨rfl, hA3⟩; have H3 := hid hA3; have q1 := (box_cells (box_adds HB0.out hA3)).2.1; clear hA3)
        clear c0 c1 c2 c3 q1
        have HB3 := hid (box_adds HB1.out H3.out)
        go_wp2_with (refine wpList_store_row rfl 28 _ _ rfl N1 #[.bool false, .slice .none 0 0, .slice .none 0 0, .slice .none 0 0] rfl rfl 28 _ HB3.out (info4 _ _ _ _) rfl (one4 _ _ _ _ _ _ _ _ _ _) ?_)
        refine bodyPost_ret (results_n2 rfl _ _ N1 _ rfl (setRow_heap w3 N1 _ _ 28 _ HB3.out) rfl) rfl ?_
        rw [HE.out]
        exact ptnode_end (z := NM.none) rfl rfl (NOwn.none _ _) (HA2.out.trans H3.out) HB3.out HL.out _
    · obtain ⟨k, rfl⟩ : ∃ k : Nat, i = (k : Int) := ⟨i.toNat, by omega⟩
      have hlt : k < kn := by omega
      have h0 : ¬ (k : Int) < 0 := by omega
      have h1 : ¬ (kn : Int) ≤ (k : Int) := by omega
      obtain ⟨nd, hnd⟩ : ∃ nd, nd = N.without x.nd k (k + 1) := ⟨_, rfl⟩
      have HE := hid (show N.remove x.nd (k : Int) = N.told nd by
        unfold N.remove
        rw [← HR.out, if_neg (by decide), if_neg (by rw [show x.nd.keys.length = kn from HKn.out.symm]; exact hin), Int.toNat_natCast, hnd])
      have HWo := hid (fun w' (hA : Adds w w') => show Calls Try.prog 58 #[.agg #[.bool x.leaf, .slice x.ka kn x.kc, .slice x.v.a x.v.l.length x.v.cap, .slice x.ia x.is.length x.ic], .int .i64 (k : Int), .int .i64 ((k : Int) + 1)] w' (PNode w' nd) by
        rw [hnd, ← HV.out, show (k : Int) + 1 = ((k + 1 : Nat) : Int) by omega]
        exact nwithout_any x k (k + 1) w' (HX.out.adds hA) HSx.out (by rw [← HKn.out]; omega) (by rw [← HKn.out]; omega) (right_len HR.out.symm).1 (right_len HR.out.symm).2)
      have HBn := hid (show N.Bd 1000 nd by rw [hnd]; exact (HBd.out.without (Nat.le_succ k)).mono (by decide))
      clear hnd hin
      go_upto_region 5 with (go_at_call 15; refine HC.out.mono ?_; rintro e w3 ⟨rfl, hA3⟩; have H3 := hid hA3; obtain ⟨q0, q1, q2, q3⟩ := box_cells (box_adds HB0.out hA3); clear hA3)
      clear c0 c1 c2 c3
      go_wp2_with (first
        | (go_at_call 58; refine (HWo.out w3 (HA2.out.trans H3.out)).mono ?_; rintro e w4 hp; obtain ⟨leaf, ka, kc, ks, va, vc, hs, ia, ic, zs, rfl, H4⟩ := hp.op; clear hp; have HWh := hid (whole_made (w1 := w) H4.out.1 H4.out.2.1 HBn.out (HA2.out.trans H3.out).size))
        | (go_at_call 50; refine HWh.out.mono ?_; rintro e w5 ⟨leaf5, ka5, kc5, ks5, va5, vc5, hs5, ia5, ic5, zs5, rfl, H5⟩; have HB5 := hid (box_adds HB1.out ((H3.out.trans H4.out.2.2).trans H5.out.2.2)))
        | (refine wpList_store_row rfl 28 _ _ rfl N1 #[.bool leaf5, .slice ka5 ks5.length kc5, .slice va5 hs5.length vc5, .slice ia5 zs5.length ic5] rfl rfl 28 _ HB5.out (info4 _ _ _ _) rfl (one4 _ _ _ _ _ _ _ _ _ _) ?_))
      refine bodyPost_ret (results_n2 rfl _ _ N1 _ rfl (setRow_heap w5 N1 _ _ 28 _ HB5.out) rfl) rfl ?_
      rw [HE.out]
      exact ptnode_end (z := ⟨leaf5, ka5, kc5, ks5, ⟨va5, vc5, hs5⟩, ia5, ic5, zs5⟩) H5.out.1 rfl H5.out.2.1 (((HA2.out.trans H3.out).trans H4.out.2.2).trans H5.out.2.2) HB5.out HL.out _
end Go.Proofs.Ytplppnngmlljnaa
