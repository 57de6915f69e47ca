/- Truths joined, at the values of the chapter's examples. -/
import Derived.Test.YtjmldloalieelaaCalc
namespace Go.Proofs.Ytjmldloalieelaa
open Go.RowKit

theorem same_at (u v : M.V) (x : Bool) (h : (M.cmp u v == 0) = x) (w : World) : Calls Try.prog 17 #[VV u, VV v] w (Tells w (.bool x)) := by
  have := same_any u v w
  rw [h] at this
  exact this
set_option maxRecDepth 100000 in
set_option maxHeartbeats 1000000 in
theorem decide0 (w : World) : Calls Try.prog 37 #[.int .i64 0, .agg #[.int .i64 0, .int .i64 0, .float .f64 0, .string ⟨#[]⟩], .agg #[.int .i64 1, .int .i64 0, .float .f64 0, .string ⟨#[]⟩]] w (Tells w (.agg #[.int .i64 1, .int .i64 0, .float .f64 0, .string ⟨#[]⟩])) := by
  have hs := hst
  have H1 := hid (fun w => same_at ⟨0, 0, 0, []⟩ ⟨1, 0, 0, []⟩ false (by decide) w)
  have H2 := hid (fun w => same_at ⟨1, 0, 0, []⟩ ⟨1, 0, 0, []⟩ true (by decide) w)
  go_enter Try.func37, Try.ntmps37
  go_upto_region 1 with fail
  have AD := hid (show Adds (((w.alloc (.cells #[.int .i64 0, .int .i64 0, .float .f64 0, .string ⟨#[]⟩] 24)).alloc (.cells #[.int .i64 1, .int .i64 0, .float .f64 0, .string ⟨#[]⟩] 24)).alloc (.cells #[.int .i64 0, .int .i64 0, .float .f64 0, .string ⟨#[]⟩] 24)) (((w.alloc (.cells #[.int .i64 0, .int .i64 0, .float .f64 0, .string ⟨#[]⟩] 24)).alloc (.cells #[.int .i64 1, .int .i64 0, .float .f64 0, .string ⟨#[]⟩] 24)).alloc (.cells #[.int .i64 0, .int .i64 0, .float .f64 0, .string ⟨#[]⟩] 24)).drew from (Touch.refl _ _).drew)
  have hS := AD.out
  refine H_begin (S := fun w' => Adds (((w.alloc (.cells #[.int .i64 0, .int .i64 0, .float .f64 0, .string ⟨#[]⟩] 24)).alloc (.cells #[.int .i64 1, .int .i64 0, .float .f64 0, .string ⟨#[]⟩] 24)).alloc (.cells #[.int .i64 0, .int .i64 0, .float .f64 0, .string ⟨#[]⟩] 24)) w') (by kernel_rfl) ?_
  refine H_put (i := 0) 8 (v := .agg #[.int .i64 0, .int .i64 0, .float .f64 0, .string ⟨#[]⟩]) rfl rfl (by kernel_rfl) (by kernel_rfl) (by kernel_rfl) (fun _ _ _ h => h) (Or.inl ⟨by rfl, fun w' hw' => ?_⟩) hS ?_
  · obtain ⟨b1, b2, b3⟩ := three hw'; have c0 := cellOf b1 0; have c1 := cellOf b1 1; have c2 := cellOf b1 2; have c3 := cellOf b1 3; have d0 := cellOf b2 0; have d1 := cellOf b2 1; have d2 := cellOf b2 2; have d3 := cellOf b2 3; simp at c0 c1 c2 c3 d0 d1 d2 d3; go_simp
  simp only [Act.put, List.setIfInBounds_toArray, List.set_cons_zero, List.set_cons_succ]
  refine H_put (i := 1) 9 (v := .int .i64 0) rfl rfl (by kernel_rfl) (by kernel_rfl) (by kernel_rfl) (fun _ _ _ h => h) (Or.inl ⟨by rfl, fun w' hw' => ?_⟩) hS ?_
  · go_simp
  simp only [Act.put, List.setIfInBounds_toArray, List.set_cons_zero, List.set_cons_succ]
  refine H_call (i := 2) 10 38 #[.int .i64 0] (by kernel_rfl) rfl rfl (by rfl) (by go_simp) (boolOf_any _ _) ?_
  rintro e wk1 ⟨rfl, h1⟩
  have K1 := hid (AD.out.trans h1)
  refine ⟨_, fun w' => Adds wk1 w', rfl, Touch.refl _ _, fun w' h => K1.out.trans h, ?_⟩
  have hS : Adds wk1 wk1 := Touch.refl _ _
  simp only [Act.put, List.setIfInBounds_toArray, List.set_cons_zero, List.set_cons_succ]
  refine H_call (i := 3) 11 17 #[.agg #[.int .i64 0, .int .i64 0, .float .f64 0, .string ⟨#[]⟩], .agg #[.int .i64 1, .int .i64 0, .float .f64 0, .string ⟨#[]⟩]] (by kernel_rfl) rfl rfl (by rfl) (by go_simp) (H1.out _) ?_
  rintro e wk2 ⟨rfl, h2⟩
  have K2 := hid (K1.out.trans h2)
  refine ⟨_, fun w' => Adds wk2 w', rfl, Touch.refl _ _, fun w' h => h2.trans h, ?_⟩
  have hS : Adds wk2 wk2 := Touch.refl _ _
  simp only [Act.put, List.setIfInBounds_toArray, List.set_cons_zero, List.set_cons_succ]
  refine H_put (i := 4) 12 (v := .bool false) rfl rfl (by kernel_rfl) (by kernel_rfl) (by kernel_rfl) (fun _ _ _ h => h) (Or.inl ⟨by rfl, fun w' hw' => ?_⟩) hS ?_
  · go_simp
  simp only [Act.put, List.setIfInBounds_toArray, List.set_cons_zero, List.set_cons_succ]
  refine H_put (i := 5) 13 (v := .agg #[.int .i64 1, .int .i64 0, .float .f64 0, .string ⟨#[]⟩]) rfl rfl (by kernel_rfl) (by kernel_rfl) (by kernel_rfl) (fun _ _ _ h => h) (Or.inl ⟨by rfl, fun w' hw' => ?_⟩) hS ?_
  · obtain ⟨b1, b2, b3⟩ := three (K2.out.trans hw'); have c0 := cellOf b1 0; have c1 := cellOf b1 1; have c2 := cellOf b1 2; have c3 := cellOf b1 3; have d0 := cellOf b2 0; have d1 := cellOf b2 1; have d2 := cellOf b2 2; have d3 := cellOf b2 3; simp at c0 c1 c2 c3 d0 d1 d2 d3; go_simp
  simp only [Act.put, List.setIfInBounds_toArray, List.set_cons_zero, List.set_cons_succ]
  refine H_put (i := 6) 14 (v := .int .i64 0) rfl rfl (by kernel_rfl) (by kernel_rfl) (by kernel_rfl) (fun _ _ _ h => h) (Or.inl ⟨by rfl, fun w' hw' => ?_⟩) hS ?_
  · go_simp
  simp only [Act.put, List.setIfInBounds_toArray, List.set_cons_zero, List.set_cons_succ]
  refine H_call (i := 7) 15 38 #[.int .i64 0] (by kernel_rfl) rfl rfl (by rfl) (by go_simp) (boolOf_any _ _) ?_
  rintro e wk3 ⟨rfl, h3⟩
  have K3 := hid (K2.out.trans h3)
  refine ⟨_, fun w' => Adds wk3 w', rfl, Touch.refl _ _, fun w' h => h3.trans h, ?_⟩
  have hS : Adds wk3 wk3 := Touch.refl _ _
  simp only [Act.put, List.setIfInBounds_toArray, List.set_cons_zero, List.set_cons_succ]
  refine H_call (i := 8) 16 17 #[.agg #[.int .i64 1, .int .i64 0, .float .f64 0, .string ⟨#[]⟩], .agg #[.int .i64 1, .int .i64 0, .float .f64 0, .string ⟨#[]⟩]] (by kernel_rfl) rfl rfl (by rfl) (by go_simp) (H2.out _) ?_
  rintro e wk4 ⟨rfl, h4⟩
  have K4 := hid (K3.out.trans h4)
  refine ⟨_, fun w' => Adds wk4 w', rfl, Touch.refl _ _, fun w' h => h4.trans h, ?_⟩
  have hS : Adds wk4 wk4 := Touch.refl _ _
  simp only [Act.put, List.setIfInBounds_toArray, List.set_cons_zero, List.set_cons_succ]
  refine H_put (i := 9) 17 (v := .bool true) rfl rfl (by kernel_rfl) (by kernel_rfl) (by kernel_rfl) (fun _ _ _ h => h) (Or.inl ⟨by rfl, fun w' hw' => ?_⟩) hS ?_
  · go_simp
  simp only [Act.put, List.setIfInBounds_toArray, List.set_cons_zero, List.set_cons_succ]
  refine H_put (i := 10) 7 (v := .bool true) rfl rfl (by kernel_rfl) (by kernel_rfl) (by kernel_rfl) (fun _ _ _ h => h) (Or.inl ⟨by rfl, fun w' hw' => ?_⟩) hS ?_
  · go_simp
  simp only [Act.put, List.setIfInBounds_toArray, List.set_cons_zero, List.set_cons_succ]
  refine wpAnyH_done (by kernel_rfl) ?_ _
  obtain ⟨b1, b2, b3⟩ := three K4.out; have c0 := cellOf b1 0; have c1 := cellOf b1 1; have c2 := cellOf b1 2; have c3 := cellOf b1 3; have d0 := cellOf b2 0; have d1 := cellOf b2 1; have d2 := cellOf b2 2; have d3 := cellOf b2 3; have e0 := cellOf b3 0; have e1 := cellOf b3 1; have e2 := cellOf b3 2; have e3 := cellOf b3 3; have g0 := frozen_of_row wk4 _ 0 _ 24 b3; have g1 := frozen_of_row wk4 _ 1 _ 24 b3; have g2 := frozen_of_row wk4 _ 2 _ 24 b3; have g3 := frozen_of_row wk4 _ 3 _ 24 b3; clear b1 b2 b3; simp at c0 c1 c2 c3 d0 d1 d2 d3 e0 e1 e2 e3
  go_wp2_with (first | (go_at_call 38; refine (boolOf_any _ _).mono ?_; rintro e w5 ⟨rfl, hA⟩; have K5 := hid (K4.out.trans hA); obtain ⟨b1, b2, b3⟩ := three K5.out; have c0 := cellOf b1 0; have c1 := cellOf b1 1; have c2 := cellOf b1 2; have c3 := cellOf b1 3; have d0 := cellOf b2 0; have d1 := cellOf b2 1; have d2 := cellOf b2 2; have d3 := cellOf b2 3; have e0 := cellOf b3 0; have e1 := cellOf b3 1; have e2 := cellOf b3 2; have e3 := cellOf b3 3; have g0 := frozen_of_row w5 _ 0 _ 24 b3; have g1 := frozen_of_row w5 _ 1 _ 24 b3; have g2 := frozen_of_row w5 _ 2 _ 24 b3; have g3 := frozen_of_row w5 _ 3 _ 24 b3; clear b1 b2 b3; simp at c0 c1 c2 c3 d0 d1 d2 d3 e0 e1 e2 e3; clear hA))
  refine bodyPost_ret (v := .agg #[.int .i64 1, .int .i64 0, .float .f64 0, .string ⟨#[]⟩]) (by simp [results, Try.results37, go_sem, e0, e1, e2, e3]) rfl ⟨rfl, ?_⟩
  exact set4 (w.heap.size + 2) (by omega) (((((Touch.refl _ w).alloc _).alloc _).alloc _).trans K5.out)
set_option maxRecDepth 100000 in
set_option maxHeartbeats 1000000 in
theorem decide1 (w : World) : Calls Try.prog 37 #[.int .i64 1, .agg #[.int .i64 0, .int .i64 0, .float .f64 0, .string ⟨#[]⟩], .agg #[.int .i64 1, .int .i64 0, .float .f64 0, .string ⟨#[]⟩]] w (Tells w (.agg #[.int .i64 0, .int .i64 0, .float .f64 0, .string ⟨#[]⟩])) := by
  have hs := hst
  have H1 := hid (fun w => same_at ⟨0, 0, 0, []⟩ ⟨1, 1, 0, []⟩ false (by decide) w)
  have H2 := hid (fun w => same_at ⟨1, 0, 0, []⟩ ⟨1, 1, 0, []⟩ false (by decide) w)
  go_enter Try.func37, Try.ntmps37
  go_upto_region 1 with fail
  have AD := hid (show Adds (((w.alloc (.cells #[.int .i64 0, .int .i64 0, .float .f64 0, .string ⟨#[]⟩] 24)).alloc (.cells #[.int .i64 1, .int .i64 0, .float .f64 0, .string ⟨#[]⟩] 24)).alloc (.cells #[.int .i64 0, .int .i64 0, .float .f64 0, .string ⟨#[]⟩] 24)) (((w.alloc (.cells #[.int .i64 0, .int .i64 0, .float .f64 0, .string ⟨#[]⟩] 24)).alloc (.cells #[.int .i64 1, .int .i64 0, .float .f64 0, .string ⟨#[]⟩] 24)).alloc (.cells #[.int .i64 0, .int .i64 0, .float .f64 0, .string ⟨#[]⟩] 24)).drew from (Touch.refl _ _).drew)
  have hS := AD.out
  refine H_begin (S := fun w' => Adds (((w.alloc (.cells #[.int .i64 0, .int .i64 0, .float .f64 0, .string ⟨#[]⟩] 24)).alloc (.cells #[.int .i64 1, .int .i64 0, .float .f64 0, .string ⟨#[]⟩] 24)).alloc (.cells #[.int .i64 0, .int .i64 0, .float .f64 0, .string ⟨#[]⟩] 24)) w') (by kernel_rfl) ?_
  refine H_put (i := 0) 8 (v := .agg #[.int .i64 0, .int .i64 0, .float .f64 0, .string ⟨#[]⟩]) rfl rfl (by kernel_rfl) (by kernel_rfl) (by kernel_rfl) (fun _ _ _ h => h) (Or.inl ⟨by rfl, fun w' hw' => ?_⟩) hS ?_
  · obtain ⟨b1, b2, b3⟩ := three hw'; have c0 := cellOf b1 0; have c1 := cellOf b1 1; have c2 := cellOf b1 2; have c3 := cellOf b1 3; have d0 := cellOf b2 0; have d1 := cellOf b2 1; have d2 := cellOf b2 2; have d3 := cellOf b2 3; simp at c0 c1 c2 c3 d0 d1 d2 d3; go_simp
  simp only [Act.put, List.setIfInBounds_toArray, List.set_cons_zero, List.set_cons_succ]
  refine H_put (i := 1) 9 (v := .int .i64 1) rfl rfl (by kernel_rfl) (by kernel_rfl) (by kernel_rfl) (fun _ _ _ h => h) (Or.inl ⟨by rfl, fun w' hw' => ?_⟩) hS ?_
  · go_simp
  simp only [Act.put, List.setIfInBounds_toArray, List.set_cons_zero, List.set_cons_succ]
  refine H_call (i := 2) 10 38 #[.int .i64 1] (by kernel_rfl) rfl rfl (by rfl) (by go_simp) (boolOf_any _ _) ?_
  rintro e wk1 ⟨rfl, h1⟩
  have K1 := hid (AD.out.trans h1)
  refine ⟨_, fun w' => Adds wk1 w', rfl, Touch.refl _ _, fun w' h => K1.out.trans h, ?_⟩
  have hS : Adds wk1 wk1 := Touch.refl _ _
  simp only [Act.put, List.setIfInBounds_toArray, List.set_cons_zero, List.set_cons_succ]
  refine H_call (i := 3) 11 17 #[.agg #[.int .i64 0, .int .i64 0, .float .f64 0, .string ⟨#[]⟩], .agg #[.int .i64 1, .int .i64 1, .float .f64 0, .string ⟨#[]⟩]] (by kernel_rfl) rfl rfl (by rfl) (by go_simp) (H1.out _) ?_
  rintro e wk2 ⟨rfl, h2⟩
  have K2 := hid (K1.out.trans h2)
  refine ⟨_, fun w' => Adds wk2 w', rfl, Touch.refl _ _, fun w' h => h2.trans h, ?_⟩
  have hS : Adds wk2 wk2 := Touch.refl _ _
  simp only [Act.put, List.setIfInBounds_toArray, List.set_cons_zero, List.set_cons_succ]
  refine H_put (i := 4) 12 (v := .bool false) rfl rfl (by kernel_rfl) (by kernel_rfl) (by kernel_rfl) (fun _ _ _ h => h) (Or.inl ⟨by rfl, fun w' hw' => ?_⟩) hS ?_
  · go_simp
  simp only [Act.put, List.setIfInBounds_toArray, List.set_cons_zero, List.set_cons_succ]
  refine H_put (i := 5) 13 (v := .agg #[.int .i64 1, .int .i64 0, .float .f64 0, .string ⟨#[]⟩]) rfl rfl (by kernel_rfl) (by kernel_rfl) (by kernel_rfl) (fun _ _ _ h => h) (Or.inl ⟨by rfl, fun w' hw' => ?_⟩) hS ?_
  · obtain ⟨b1, b2, b3⟩ := three (K2.out.trans hw'); have c0 := cellOf b1 0; have c1 := cellOf b1 1; have c2 := cellOf b1 2; have c3 := cellOf b1 3; have d0 := cellOf b2 0; have d1 := cellOf b2 1; have d2 := cellOf b2 2; have d3 := cellOf b2 3; simp at c0 c1 c2 c3 d0 d1 d2 d3; go_simp
  simp only [Act.put, List.setIfInBounds_toArray, List.set_cons_zero, List.set_cons_succ]
  refine H_put (i := 6) 14 (v := .int .i64 1) rfl rfl (by kernel_rfl) (by kernel_rfl) (by kernel_rfl) (fun _ _ _ h => h) (Or.inl ⟨by rfl, fun w' hw' => ?_⟩) hS ?_
  · go_simp
  simp only [Act.put, List.setIfInBounds_toArray, List.set_cons_zero, List.set_cons_succ]
  refine H_call (i := 7) 15 38 #[.int .i64 1] (by kernel_rfl) rfl rfl (by rfl) (by go_simp) (boolOf_any _ _) ?_
  rintro e wk3 ⟨rfl, h3⟩
  have K3 := hid (K2.out.trans h3)
  refine ⟨_, fun w' => Adds wk3 w', rfl, Touch.refl _ _, fun w' h => h3.trans h, ?_⟩
  have hS : Adds wk3 wk3 := Touch.refl _ _
  simp only [Act.put, List.setIfInBounds_toArray, List.set_cons_zero, List.set_cons_succ]
  refine H_call (i := 8) 16 17 #[.agg #[.int .i64 1, .int .i64 0, .float .f64 0, .string ⟨#[]⟩], .agg #[.int .i64 1, .int .i64 1, .float .f64 0, .string ⟨#[]⟩]] (by kernel_rfl) rfl rfl (by rfl) (by go_simp) (H2.out _) ?_
  rintro e wk4 ⟨rfl, h4⟩
  have K4 := hid (K3.out.trans h4)
  refine ⟨_, fun w' => Adds wk4 w', rfl, Touch.refl _ _, fun w' h => h4.trans h, ?_⟩
  have hS : Adds wk4 wk4 := Touch.refl _ _
  simp only [Act.put, List.setIfInBounds_toArray, List.set_cons_zero, List.set_cons_succ]
  refine H_put (i := 9) 17 (v := .bool false) rfl rfl (by kernel_rfl) (by kernel_rfl) (by kernel_rfl) (fun _ _ _ h => h) (Or.inl ⟨by rfl, fun w' hw' => ?_⟩) hS ?_
  · go_simp
  simp only [Act.put, List.setIfInBounds_toArray, List.set_cons_zero, List.set_cons_succ]
  refine H_put (i := 10) 7 (v := .bool false) rfl rfl (by kernel_rfl) (by kernel_rfl) (by kernel_rfl) (fun _ _ _ h => h) (Or.inl ⟨by rfl, fun w' hw' => ?_⟩) hS ?_
  · go_simp
  simp only [Act.put, List.setIfInBounds_toArray, List.set_cons_zero, List.set_cons_succ]
  refine wpAnyH_done (by kernel_rfl) ?_ _
  obtain ⟨b1, b2, b3⟩ := three K4.out; have c0 := cellOf b1 0; have c1 := cellOf b1 1; have c2 := cellOf b1 2; have c3 := cellOf b1 3; have d0 := cellOf b2 0; have d1 := cellOf b2 1; have d2 := cellOf b2 2; have d3 := cellOf b2 3; have e0 := cellOf b3 0; have e1 := cellOf b3 1; have e2 := cellOf b3 2; have e3 := cellOf b3 3; have g0 := frozen_of_row wk4 _ 0 _ 24 b3; have g1 := frozen_of_row wk4 _ 1 _ 24 b3; have g2 := frozen_of_row wk4 _ 2 _ 24 b3; have g3 := frozen_of_row wk4 _ 3 _ 24 b3; clear b1 b2 b3; simp at c0 c1 c2 c3 d0 d1 d2 d3 e0 e1 e2 e3
  go_wp2
  refine bodyPost_ret (v := .agg #[.int .i64 0, .int .i64 0, .float .f64 0, .string ⟨#[]⟩]) (by simp [results, Try.results37, go_sem, e0, e1, e2, e3]) rfl ⟨rfl, ?_⟩
  exact set4 (w.heap.size + 2) (by omega) (((((Touch.refl _ w).alloc _).alloc _).alloc _).trans K4.out)
set_option maxHeartbeats 1000000 in
theorem both0 (w : World) : Calls Try.prog 12 #[.int .i64 10, .agg #[.int .i64 0, .int .i64 0, .float .f64 0, .string ⟨#[]⟩], .agg #[.int .i64 1, .int .i64 0, .float .f64 0, .string ⟨#[]⟩]] w (Tells w (.tuple #[.agg #[.int .i64 1, .int .i64 0, .float .f64 0, .string ⟨#[]⟩], .int .i64 0])) := by
  have hs := hst
  have H1 := hid (mayBeTrue_at 0 (.inl rfl))
  have H2 := hid (mayBeTrue_at 1 (.inr rfl))
  go_enter Try.func12, Try.ntmps12
  go_wp2_with (first
    | (go_at_call 37; refine (decide0 _).mono ?_; rintro e w3 ⟨rfl, hA⟩; have A3 := hid (A2.out.trans hA); obtain ⟨b1, b2, b3⟩ := three A3.out; have c0 := cellOf b1 0; have c1 := cellOf b1 1; have c2 := cellOf b1 2; have c3 := cellOf b1 3; have d0 := cellOf b2 0; have d1 := cellOf b2 1; have d2 := cellOf b2 2; have d3 := cellOf b2 3; have e0 := cellOf b3 0; have e1 := cellOf b3 1; have e2 := cellOf b3 2; have e3 := cellOf b3 3; have g0 := frozen_of_row w3 _ 0 _ 24 b3; have g1 := frozen_of_row w3 _ 1 _ 24 b3; have g2 := frozen_of_row w3 _ 2 _ 24 b3; have g3 := frozen_of_row w3 _ 3 _ 24 b3; clear b1 b2 b3; simp at c0 c1 c2 c3 d0 d1 d2 d3 e0 e1 e2 e3; clear hA)
    | (go_at_call 36; have A1 := A1; refine (H2.out _).mono ?_; rintro e w2 ⟨rfl, hA⟩; have A2 := hid (A1.out.trans hA); obtain ⟨b1, b2, b3⟩ := three A2.out; have c0 := cellOf b1 0; have c1 := cellOf b1 1; have c2 := cellOf b1 2; have c3 := cellOf b1 3; have d0 := cellOf b2 0; have d1 := cellOf b2 1; have d2 := cellOf b2 2; have d3 := cellOf b2 3; have e0 := cellOf b3 0; have e1 := cellOf b3 1; have e2 := cellOf b3 2; have e3 := cellOf b3 3; have g0 := frozen_of_row w2 _ 0 _ 24 b3; have g1 := frozen_of_row w2 _ 1 _ 24 b3; have g2 := frozen_of_row w2 _ 2 _ 24 b3; have g3 := frozen_of_row w2 _ 3 _ 24 b3; clear b1 b2 b3; simp at c0 c1 c2 c3 d0 d1 d2 d3 e0 e1 e2 e3; clear hA)
    | (go_at_call 36; refine (H1.out _).mono ?_; rintro e w1 ⟨rfl, hA⟩; have A1 := hid hA; obtain ⟨b1, b2, b3⟩ := three hA; have c0 := cellOf b1 0; have c1 := cellOf b1 1; have c2 := cellOf b1 2; have c3 := cellOf b1 3; have d0 := cellOf b2 0; have d1 := cellOf b2 1; have d2 := cellOf b2 2; have d3 := cellOf b2 3; have e0 := cellOf b3 0; have e1 := cellOf b3 1; have e2 := cellOf b3 2; have e3 := cellOf b3 3; have g0 := frozen_of_row w1 _ 0 _ 24 b3; have g1 := frozen_of_row w1 _ 1 _ 24 b3; have g2 := frozen_of_row w1 _ 2 _ 24 b3; have g3 := frozen_of_row w1 _ 3 _ 24 b3; clear b1 b2 b3; simp at c0 c1 c2 c3 d0 d1 d2 d3 e0 e1 e2 e3; clear hA))
  refine bodyPost_ret (v := .tuple #[.agg #[.int .i64 1, .int .i64 0, .float .f64 0, .string ⟨#[]⟩], .int .i64 0]) (by simp [results, Try.results12, go_sem, e0, e1, e2, e3]) rfl ⟨rfl, ?_⟩
  exact set4 (w.heap.size + 2) (by omega) (((((Touch.refl _ w).alloc _).alloc _).alloc _).trans A3.out)
set_option maxHeartbeats 1000000 in
theorem both1 (w : World) : Calls Try.prog 12 #[.int .i64 11, .agg #[.int .i64 0, .int .i64 0, .float .f64 0, .string ⟨#[]⟩], .agg #[.int .i64 1, .int .i64 0, .float .f64 0, .string ⟨#[]⟩]] w (Tells w (.tuple #[.agg #[.int .i64 0, .int .i64 0, .float .f64 0, .string ⟨#[]⟩], .int .i64 0])) := by
  have hs := hst
  have H1 := hid (mayBeTrue_at 0 (.inl rfl))
  have H2 := hid (mayBeTrue_at 1 (.inr rfl))
  go_enter Try.func12, Try.ntmps12
  go_wp2_with (first
    | (go_at_call 37; refine (decide1 _).mono ?_; rintro e w3 ⟨rfl, hA⟩; have A3 := hid (A2.out.trans hA); obtain ⟨b1, b2, b3⟩ := three A3.out; have c0 := cellOf b1 0; have c1 := cellOf b1 1; have c2 := cellOf b1 2; have c3 := cellOf b1 3; have d0 := cellOf b2 0; have d1 := cellOf b2 1; have d2 := cellOf b2 2; have d3 := cellOf b2 3; have e0 := cellOf b3 0; have e1 := cellOf b3 1; have e2 := cellOf b3 2; have e3 := cellOf b3 3; have g0 := frozen_of_row w3 _ 0 _ 24 b3; have g1 := frozen_of_row w3 _ 1 _ 24 b3; have g2 := frozen_of_row w3 _ 2 _ 24 b3; have g3 := frozen_of_row w3 _ 3 _ 24 b3; clear b1 b2 b3; simp at c0 c1 c2 c3 d0 d1 d2 d3 e0 e1 e2 e3; clear hA)
    | (go_at_call 36; have A1 := A1; refine (H2.out _).mono ?_; rintro e w2 ⟨rfl, hA⟩; have A2 := hid (A1.out.trans hA); obtain ⟨b1, b2, b3⟩ := three A2.out; have c0 := cellOf b1 0; have c1 := cellOf b1 1; have c2 := cellOf b1 2; have c3 := cellOf b1 3; have d0 := cellOf b2 0; have d1 := cellOf b2 1; have d2 := cellOf b2 2; have d3 := cellOf b2 3; have e0 := cellOf b3 0; have e1 := cellOf b3 1; have e2 := cellOf b3 2; have e3 := cellOf b3 3; have g0 := frozen_of_row w2 _ 0 _ 24 b3; have g1 := frozen_of_row w2 _ 1 _ 24 b3; have g2 := frozen_of_row w2 _ 2 _ 24 b3; have g3 := frozen_of_row w2 _ 3 _ 24 b3; clear b1 b2 b3; simp at c0 c1 c2 c3 d0 d1 d2 d3 e0 e1 e2 e3; clear hA)
    | (go_at_call 36; refine (H1.out _).mono ?_; rintro e w1 ⟨rfl, hA⟩; have A1 := hid hA; obtain ⟨b1, b2, b3⟩ := three hA; have c0 := cellOf b1 0; have c1 := cellOf b1 1; have c2 := cellOf b1 2; have c3 := cellOf b1 3; have d0 := cellOf b2 0; have d1 := cellOf b2 1; have d2 := cellOf b2 2; have d3 := cellOf b2 3; have e0 := cellOf b3 0; have e1 := cellOf b3 1; have e2 := cellOf b3 2; have e3 := cellOf b3 3; have g0 := frozen_of_row w1 _ 0 _ 24 b3; have g1 := frozen_of_row w1 _ 1 _ 24 b3; have g2 := frozen_of_row w1 _ 2 _ 24 b3; have g3 := frozen_of_row w1 _ 3 _ 24 b3; clear b1 b2 b3; simp at c0 c1 c2 c3 d0 d1 d2 d3 e0 e1 e2 e3; clear hA))
  refine bodyPost_ret (v := .tuple #[.agg #[.int .i64 0, .int .i64 0, .float .f64 0, .string ⟨#[]⟩], .int .i64 0]) (by simp [results, Try.results12, go_sem, e0, e1, e2, e3]) rfl ⟨rfl, ?_⟩
  exact set4 (w.heap.size + 2) (by omega) (((((Touch.refl _ w).alloc _).alloc _).alloc _).trans A3.out)
end Go.Proofs.Ytjmldloalieelaa
