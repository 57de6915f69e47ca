/- The order of values is total: the walk. -/
import Derived.Test.YtjmldloalieelaaWorks
import Derived.Deep.CutRange
import Derived.Deep.DeepCutAuto
namespace Go.Proofs.Ytjmldloalieelaa
open Go.RowKit

/-- Bytes in new memory, as a string from there on. -/
def PK (w : World) (x : List UInt8) (e : Ending) (w' : World) : Prop := ∃ a cap, e = .returned (.slice a x.length cap) ∧ Hid ((∀ w'', Adds w' w'' → (convert 34 9 (.slice a x.length cap)).run Try.prog w'' = .ok (.string ⟨x.toArray⟩) w'') ∧ Adds w w')
theorem POwn.pk {w w' : World} {x : List UInt8} {e : Ending} (h : POwn w x e w') : PK w x e w' := by
  obtain ⟨v, rfl, h1, h2⟩ := h
  obtain ⟨a, cap, rfl, hL⟩ := Own.lies h1
  exact ⟨a, cap, rfl, fun w'' hA => conv_at w'' a x cap (hL.at_.adds hA), h2⟩
theorem put_at (v : M.V) (hv : v.Ok) (x : List UInt8) (h : M.put v = x) (w : World) : Calls Try.prog 16 #[.slice none 0 0, VV v] w (PK w x) := by
  subst h
  exact (put_any v hv w).mono fun _ _ h => h.pk
theorem same_plain (a : M.V) (ha : a.Ok) : (M.cmp (M.plain a) a == 0) = true := by
  have h := M.cmp_self (M.plain a)
  unfold M.cmp at h ⊢
  rw [M.plain_plain (M.plain_is ha)] at h ⊢
  simpa using h
theorem wrap_small {x : Int} (h1 : -1 ≤ x) (h2 : x ≤ 1) : wrap64 (-x) = -x := by unfold wrap64; omega
set_option maxRecDepth 100000 in
set_option maxHeartbeats 4000000 in
theorem total_any (a b c : M.V) (ha : a.Ok) (hb : b.Ok) (w : World) : Calls Try.prog 4 #[VV a, VV b, VV c] w (Tells w (.bool true)) := by
  obtain ⟨x, hx⟩ : ∃ x, M.cmp a b = x := ⟨_, rfl⟩
  obtain ⟨y, hy⟩ : ∃ y, M.cmp b c = y := ⟨_, rfl⟩
  obtain ⟨z, hz⟩ : ∃ z, M.cmp a c = z := ⟨_, rfl⟩
  obtain ⟨pa, hpa⟩ : ∃ l, M.put a = l := ⟨_, rfl⟩
  obtain ⟨pb, hpb⟩ : ∃ l, M.put b = l := ⟨_, rfl⟩
  have ht := M.tot_cmp a b c
  rw [hx, hy, hz] at ht
  have HT := hid ht
  have C1 := hid (cmp_at a b x hx)
  have C2 := hid (cmp_at b c y hy)
  have C3 := hid (cmp_at a c z hz)
  have C4 := hid (cmp_at b a (-x) ht.turn)
  have C5 := hid (cmp_at a a 0 (M.cmp_self a))
  have P1 := hid (put_at a ha pa hpa)
  have P2 := hid (put_at b hb pb hpb)
  have L1 := hid (plain_any a)
  have S1 := hid (same_at (M.plain a) a true (same_plain a ha))
  obtain ⟨bx, hbx⟩ : ∃ q : Bool, q = (x == 0) := ⟨_, rfl⟩
  have hbe : (pa == pb) = bx := by
    have h := M.put_eq ha hb
    rw [hpa, hpb, hx] at h
    rw [hbx]
    by_cases e : x = 0
    · rw [h.2 e, e]; simp
    · have : pa ≠ pb := fun q => e (h.1 q)
      rw [beq_eq_false_iff_ne.2 this, beq_eq_false_iff_ne.2 e]
  unfold VV at C1 C2 C3 C4 C5 P1 P2 L1 S1 ⊢
  clear ht hx hy hz hpa hpb ha hb
  go_enter Try.func4, Try.ntmps4
  go_upto_region 3 with (first | (go_at_call 14; refine (works_any _).mono ?_; rintro e w1 ⟨rfl, hA⟩; have A1 := hid hA; clear hA))
  have AD := hid (show Adds w1 w1.drew from (Touch.refl _ w1).drew)
  have hS := AD.out
  refine H_begin (S := fun w' => Adds w1 w') (by kernel_rfl) ?_
  refine H_put (i := 0) 12 (v := .agg #[.int .i64 a.k, .int .i64 a.n, .float .f64 a.b, .string ⟨a.t.toArray⟩]) rfl rfl (by kernel_rfl) (by kernel_rfl) (by kernel_rfl) (fun _ _ _ h => h) (Or.inl ⟨by rfl, fun w' hw' => ?_⟩) hS ?_
  · obtain ⟨b1, _, _⟩ := three (A1.out.trans hw'); have c0 := cellOf b1 0; have c1 := cellOf b1 1; have c2 := cellOf b1 2; have c3 := cellOf b1 3; simp at c0 c1 c2 c3; go_simp
  simp only [Act.put, List.setIfInBounds_toArray, List.set_cons_zero, List.set_cons_succ]
  refine H_put (i := 1) 13 (v := .agg #[.int .i64 b.k, .int .i64 b.n, .float .f64 b.b, .string ⟨b.t.toArray⟩]) rfl rfl (by kernel_rfl) (by kernel_rfl) (by kernel_rfl) (fun _ _ _ h => h) (Or.inl ⟨by rfl, fun w' hw' => ?_⟩) hS ?_
  · obtain ⟨_, b2, _⟩ := three (A1.out.trans hw'); have c0 := cellOf b2 0; have c1 := cellOf b2 1; have c2 := cellOf b2 2; have c3 := cellOf b2 3; simp at c0 c1 c2 c3; go_simp
  simp only [Act.put, List.setIfInBounds_toArray, List.set_cons_zero, List.set_cons_succ]
  refine H_put (i := 3) 15 (v := .agg #[.int .i64 b.k, .int .i64 b.n, .float .f64 b.b, .string ⟨b.t.toArray⟩]) rfl rfl (by kernel_rfl) (by kernel_rfl) (by kernel_rfl) (fun _ _ _ h => h) (Or.inl ⟨by rfl, fun w' hw' => ?_⟩) hS ?_
  · obtain ⟨_, b2, _⟩ := three (A1.out.trans hw'); have c0 := cellOf b2 0; have c1 := cellOf b2 1; have c2 := cellOf b2 2; have c3 := cellOf b2 3; simp at c0 c1 c2 c3; go_simp
  simp only [Act.put, List.setIfInBounds_toArray, List.set_cons_zero, List.set_cons_succ]
  refine H_put (i := 4) 16 (v := .agg #[.int .i64 c.k, .int .i64 c.n, .float .f64 c.b, .string ⟨c.t.toArray⟩]) rfl rfl (by kernel_rfl) (by kernel_rfl) (by kernel_rfl) (fun _ _ _ h => h) (Or.inl ⟨by rfl, fun w' hw' => ?_⟩) hS ?_
  · obtain ⟨_, _, b3⟩ := three (A1.out.trans hw'); have c0 := cellOf b3 0; have c1 := cellOf b3 1; have c2 := cellOf b3 2; have c3 := cellOf b3 3; simp at c0 c1 c2 c3; go_simp
  simp only [Act.put, List.setIfInBounds_toArray, List.set_cons_zero, List.set_cons_succ]
  refine H_put (i := 6) 18 (v := .agg #[.int .i64 a.k, .int .i64 a.n, .float .f64 a.b, .string ⟨a.t.toArray⟩]) rfl rfl (by kernel_rfl) (by kernel_rfl) (by kernel_rfl) (fun _ _ _ h => h) (Or.inl ⟨by rfl, fun w' hw' => ?_⟩) hS ?_
  · obtain ⟨b1, _, _⟩ := three (A1.out.trans hw'); have c0 := cellOf b1 0; have c1 := cellOf b1 1; have c2 := cellOf b1 2; have c3 := cellOf b1 3; simp at c0 c1 c2 c3; go_simp
  simp only [Act.put, List.setIfInBounds_toArray, List.set_cons_zero, List.set_cons_succ]
  refine H_put (i := 7) 19 (v := .agg #[.int .i64 c.k, .int .i64 c.n, .float .f64 c.b, .string ⟨c.t.toArray⟩]) rfl rfl (by kernel_rfl) (by kernel_rfl) (by kernel_rfl) (fun _ _ _ h => h) (Or.inl ⟨by rfl, fun w' hw' => ?_⟩) hS ?_
  · obtain ⟨_, _, b3⟩ := three (A1.out.trans hw'); have c0 := cellOf b3 0; have c1 := cellOf b3 1; have c2 := cellOf b3 2; have c3 := cellOf b3 3; simp at c0 c1 c2 c3; go_simp
  simp only [Act.put, List.setIfInBounds_toArray, List.set_cons_zero, List.set_cons_succ]
  refine H_call (i := 2) 14 15 #[.agg #[.int .i64 a.k, .int .i64 a.n, .float .f64 a.b, .string ⟨a.t.toArray⟩], .agg #[.int .i64 b.k, .int .i64 b.n, .float .f64 b.b, .string ⟨b.t.toArray⟩]] (by kernel_rfl) rfl rfl (by rfl) (by go_simp) (C1.out _) ?_
  rintro e wa ⟨rfl, hwa⟩
  have Awa := hid (AD.out.trans hwa)
  refine ⟨_, fun w' => Adds wa w', rfl, Touch.refl _ _, fun w' h => Awa.out.trans h, ?_⟩
  have hS : Adds wa wa := Touch.refl _ _
  simp only [Act.put, List.setIfInBounds_toArray, List.set_cons_zero, List.set_cons_succ]
  refine H_call (i := 5) 17 15 #[.agg #[.int .i64 b.k, .int .i64 b.n, .float .f64 b.b, .string ⟨b.t.toArray⟩], .agg #[.int .i64 c.k, .int .i64 c.n, .float .f64 c.b, .string ⟨c.t.toArray⟩]] (by kernel_rfl) rfl rfl (by rfl) (by go_simp) (C2.out _) ?_
  rintro e wb ⟨rfl, hwb⟩
  have Awb := hid (Awa.out.trans hwb)
  refine ⟨_, fun w' => Adds wb w', rfl, Touch.refl _ _, fun w' h => hwb.trans h, ?_⟩
  have hS : Adds wb wb := Touch.refl _ _
  simp only [Act.put, List.setIfInBounds_toArray, List.set_cons_zero, List.set_cons_succ]
  refine H_call (i := 8) 20 15 #[.agg #[.int .i64 a.k, .int .i64 a.n, .float .f64 a.b, .string ⟨a.t.toArray⟩], .agg #[.int .i64 c.k, .int .i64 c.n, .float .f64 c.b, .string ⟨c.t.toArray⟩]] (by kernel_rfl) rfl rfl (by rfl) (by go_simp) (C3.out _) ?_
  rintro e wd ⟨rfl, hwd⟩
  have Awd := hid (Awb.out.trans hwd)
  refine ⟨_, fun w' => Adds wd w', rfl, Touch.refl _ _, fun w' h => hwd.trans h, ?_⟩
  have hS : Adds wd wd := Touch.refl _ _
  simp only [Act.put, List.setIfInBounds_toArray, List.set_cons_zero, List.set_cons_succ]
  refine H_put (i := 9) 7 (v := .int .i64 x) rfl rfl (by kernel_rfl) (by kernel_rfl) (by kernel_rfl) (fun _ _ _ h => h) (Or.inl ⟨by rfl, fun w' hw' => ?_⟩) hS ?_
  · go_simp
  simp only [Act.put, List.setIfInBounds_toArray, List.set_cons_zero, List.set_cons_succ]
  refine H_put (i := 10) 8 (v := .int .i64 y) rfl rfl (by kernel_rfl) (by kernel_rfl) (by kernel_rfl) (fun _ _ _ h => h) (Or.inl ⟨by rfl, fun w' hw' => ?_⟩) hS ?_
  · go_simp
  simp only [Act.put, List.setIfInBounds_toArray, List.set_cons_zero, List.set_cons_succ]
  refine H_put (i := 11) 9 (v := .int .i64 z) rfl rfl (by kernel_rfl) (by kernel_rfl) (by kernel_rfl) (fun _ _ _ h => h) (Or.inl ⟨by rfl, fun w' hw' => ?_⟩) hS ?_
  · go_simp
  simp only [Act.put, List.setIfInBounds_toArray, List.set_cons_zero, List.set_cons_succ]
  refine wpAnyH_done (by kernel_rfl) ?_ _
  have Ab := hid (A1.out.trans Awd.out)
  go_upto_region 4 with fail
  go_cut [40] from 21 to 40 (fun t wx => t = .bool false ∧ Hid (Adds (((w.alloc (.cells #[.int .i64 a.k, .int .i64 a.n, .float .f64 a.b, .string ⟨a.t.toArray⟩] 24)).alloc (.cells #[.int .i64 b.k, .int .i64 b.n, .float .f64 b.b, .string ⟨b.t.toArray⟩] 24)).alloc (.cells #[.int .i64 c.k, .int .i64 c.n, .float .f64 c.b, .string ⟨c.t.toArray⟩] 24)) wx))
  case first =>
    have hx1 := HT.out.lo
    have hx2 := HT.out.hi
    have hw := wrap_small hx1 hx2
    obtain ⟨b1, b2, b3⟩ := three Ab.out; have c0 := cellOf b1 0; have c1 := cellOf b1 1; have c2 := cellOf b1 2; have c3 := cellOf b1 3; have d0 := cellOf b2 0; have d1 := cellOf b2 1; have d2 := cellOf b2 2; have d3 := cellOf b2 3; clear b1 b2 b3; simp at c0 c1 c2 c3 d0 d1 d2 d3
    go_wp2_with (first
      | (go_at_call 15; have A4 := A4; refine (C5.out _).mono ?_; rintro e w5 ⟨rfl, hA⟩; have A5 := hid (A4.out.trans hA); clear hA)
      | (go_at_call 15; refine (C4.out _).mono ?_; rintro e w4 ⟨rfl, hA⟩; have A4 := hid (Ab.out.trans hA); obtain ⟨b1, b2, b3⟩ := three A4.out; have c0 := cellOf b1 0; have c1 := cellOf b1 1; have c2 := cellOf b1 2; have c3 := cellOf b1 3; have d0 := cellOf b2 0; have d1 := cellOf b2 1; have d2 := cellOf b2 2; have d3 := cellOf b2 3; clear b1 b2 b3; simp at c0 c1 c2 c3 d0 d1 d2 d3; clear hA))
    go_meet
    case rel => exact ⟨congrArg Value.bool (by simp; omega), A5.out⟩
  case rest =>
    obtain ⟨rfl, HWC⟩ := hcut
    clear Ab Awd Awb Awa AD A1 C1 C2 C3 C4 C5 hwa hwb hwd hS
    go_upto_region 6 with fail
    go_cut [74] from 41 to 74 (fun t wx => t = .bool false ∧ Hid (Adds (((w.alloc (.cells #[.int .i64 a.k, .int .i64 a.n, .float .f64 a.b, .string ⟨a.t.toArray⟩] 24)).alloc (.cells #[.int .i64 b.k, .int .i64 b.n, .float .f64 b.b, .string ⟨b.t.toArray⟩] 24)).alloc (.cells #[.int .i64 c.k, .int .i64 c.n, .float .f64 c.b, .string ⟨c.t.toArray⟩] 24)) wx))
    case first =>
      have h1 := HT.out.le
      have h2 := HT.out.ll
      have h3 := HT.out.rr
      go_wp2_with fail
      all_goals first
        | omega
        | (go_meet; first | exact ⟨rfl, HWC.out⟩ | exact ⟨congrArg Value.bool (by simp; omega), HWC.out⟩)
    case rest =>
      obtain ⟨rfl, HWE⟩ := hcut
      clear HT HWC
      go_upto_region 8 with fail
      have Ac := HWE
      have AE := hid (show Adds wc wc.drew from (Touch.refl _ wc).drew)
      have hS := AE.out
      refine H_begin (S := fun w' => Adds wc w') (by kernel_rfl) ?_
      refine H_put (i := 0) 75 (v := .int .i64 x) rfl rfl (by kernel_rfl) (by kernel_rfl) (by kernel_rfl) (fun _ _ _ h => h) (Or.inl ⟨by rfl, fun w' hw' => ?_⟩) hS ?_
      · go_simp
      simp only [Act.put, List.setIfInBounds_toArray, List.set_cons_zero, List.set_cons_succ]
      refine H_put (i := 1) 76 (v := .bool bx) rfl rfl (by kernel_rfl) (by kernel_rfl) (by kernel_rfl) (fun _ _ _ h => h) (Or.inl ⟨by rfl, fun w' hw' => ?_⟩) hS ?_
      · go_simp
      simp only [Act.put, List.setIfInBounds_toArray, List.set_cons_zero, List.set_cons_succ]
      refine H_put (i := 2) 77 (v := .agg #[.int .i64 a.k, .int .i64 a.n, .float .f64 a.b, .string ⟨a.t.toArray⟩]) rfl rfl (by kernel_rfl) (by kernel_rfl) (by kernel_rfl) (fun _ _ _ h => h) (Or.inl ⟨by rfl, fun w' hw' => ?_⟩) hS ?_
      · obtain ⟨b1, _, _⟩ := three (Ac.out.trans hw'); have c0 := cellOf b1 0; have c1 := cellOf b1 1; have c2 := cellOf b1 2; have c3 := cellOf b1 3; simp at c0 c1 c2 c3; go_simp
      simp only [Act.put, List.setIfInBounds_toArray, List.set_cons_zero, List.set_cons_succ]
      refine H_put (i := 5) 80 (v := .agg #[.int .i64 b.k, .int .i64 b.n, .float .f64 b.b, .string ⟨b.t.toArray⟩]) rfl rfl (by kernel_rfl) (by kernel_rfl) (by kernel_rfl) (fun _ _ _ h => h) (Or.inl ⟨by rfl, fun w' hw' => ?_⟩) hS ?_
      · obtain ⟨_, b2, _⟩ := three (Ac.out.trans hw'); have c0 := cellOf b2 0; have c1 := cellOf b2 1; have c2 := cellOf b2 2; have c3 := cellOf b2 3; simp at c0 c1 c2 c3; go_simp
      simp only [Act.put, List.setIfInBounds_toArray, List.set_cons_zero, List.set_cons_succ]
      refine H_call (i := 3) 78 16 #[.slice none 0 0, .agg #[.int .i64 a.k, .int .i64 a.n, .float .f64 a.b, .string ⟨a.t.toArray⟩]] (by kernel_rfl) rfl rfl (by rfl) (by go_simp) (P1.out _) ?_
      rintro e we ⟨awe, cwe, rfl, Pwe⟩
      have Awe := hid (AE.out.trans Pwe.out.2)
      refine ⟨_, fun w' => Adds we w', rfl, Touch.refl _ _, fun w' h => Awe.out.trans h, ?_⟩
      have hS : Adds we we := Touch.refl _ _
      simp only [Act.put, List.setIfInBounds_toArray, List.set_cons_zero, List.set_cons_succ]
      refine H_put (i := 4) 79 (v := .string ⟨pa.toArray⟩) rfl rfl (by kernel_rfl) (by kernel_rfl) (by kernel_rfl) (fun _ _ _ h => h) (Or.inl ⟨by rfl, fun w' hw' => ?_⟩) hS ?_
      · have hq := Pwe.out.1 w' hw'; go_simp
      simp only [Act.put, List.setIfInBounds_toArray, List.set_cons_zero, List.set_cons_succ]
      refine H_call (i := 6) 81 16 #[.slice none 0 0, .agg #[.int .i64 b.k, .int .i64 b.n, .float .f64 b.b, .string ⟨b.t.toArray⟩]] (by kernel_rfl) rfl rfl (by rfl) (by go_simp) (P2.out _) ?_
      rintro e wf ⟨awf, cwf, rfl, Pwf⟩
      have Awf := hid (Awe.out.trans Pwf.out.2)
      refine ⟨_, fun w' => Adds wf w', rfl, Touch.refl _ _, fun w' h => Pwf.out.2.trans h, ?_⟩
      have hS : Adds wf wf := Touch.refl _ _
      simp only [Act.put, List.setIfInBounds_toArray, List.set_cons_zero, List.set_cons_succ]
      refine H_put (i := 7) 82 (v := .string ⟨pb.toArray⟩) rfl rfl (by kernel_rfl) (by kernel_rfl) (by kernel_rfl) (fun _ _ _ h => h) (Or.inl ⟨by rfl, fun w' hw' => ?_⟩) hS ?_
      · have hq := Pwf.out.1 w' hw'; go_simp
      simp only [Act.put, List.setIfInBounds_toArray, List.set_cons_zero, List.set_cons_succ]
      refine H_put (i := 8) 83 (v := .bool bx) rfl rfl (by kernel_rfl) (by kernel_rfl) (by kernel_rfl) (fun _ _ _ h => h) (Or.inl ⟨by rfl, fun w' hw' => ?_⟩) hS ?_
      · have hq := hbe; go_simp
      simp only [Act.put, List.setIfInBounds_toArray, List.set_cons_zero, List.set_cons_succ]
      refine H_put (i := 9) 84 (v := .bool true) rfl rfl (by kernel_rfl) (by kernel_rfl) (by kernel_rfl) (fun _ _ _ h => h) (Or.inl ⟨by rfl, fun w' hw' => ?_⟩) hS ?_
      · go_simp
      simp only [Act.put, List.setIfInBounds_toArray, List.set_cons_zero, List.set_cons_succ]
      refine H_put (i := 10) 85 (v := .bool true) rfl rfl (by kernel_rfl) (by kernel_rfl) (by kernel_rfl) (fun _ _ _ h => h) (Or.inl ⟨by rfl, fun w' hw' => ?_⟩) hS ?_
      · go_simp
      simp only [Act.put, List.setIfInBounds_toArray, List.set_cons_zero, List.set_cons_succ]
      refine H_put (i := 11) 86 (v := .agg #[.int .i64 a.k, .int .i64 a.n, .float .f64 a.b, .string ⟨a.t.toArray⟩]) rfl rfl (by kernel_rfl) (by kernel_rfl) (by kernel_rfl) (fun _ _ _ h => h) (Or.inl ⟨by rfl, fun w' hw' => ?_⟩) hS ?_
      · obtain ⟨b1, _, _⟩ := three (Ac.out.trans (Awf.out.trans hw')); have c0 := cellOf b1 0; have c1 := cellOf b1 1; have c2 := cellOf b1 2; have c3 := cellOf b1 3; simp at c0 c1 c2 c3; go_simp
      simp only [Act.put, List.setIfInBounds_toArray, List.set_cons_zero, List.set_cons_succ]
      refine H_put (i := 13) 88 (v := .agg #[.int .i64 a.k, .int .i64 a.n, .float .f64 a.b, .string ⟨a.t.toArray⟩]) rfl rfl (by kernel_rfl) (by kernel_rfl) (by kernel_rfl) (fun _ _ _ h => h) (Or.inl ⟨by rfl, fun w' hw' => ?_⟩) hS ?_
      · obtain ⟨b1, _, _⟩ := three (Ac.out.trans (Awf.out.trans hw')); have c0 := cellOf b1 0; have c1 := cellOf b1 1; have c2 := cellOf b1 2; have c3 := cellOf b1 3; simp at c0 c1 c2 c3; go_simp
      simp only [Act.put, List.setIfInBounds_toArray, List.set_cons_zero, List.set_cons_succ]
      refine H_call (i := 12) 87 18 #[.agg #[.int .i64 a.k, .int .i64 a.n, .float .f64 a.b, .string ⟨a.t.toArray⟩]] (by kernel_rfl) rfl rfl (by rfl) (by go_simp) (L1.out _) ?_
      rintro e wg ⟨rfl, hwg⟩
      have Awg := hid (Awf.out.trans hwg)
      refine ⟨_, fun w' => Adds wg w', rfl, Touch.refl _ _, fun w' h => hwg.trans h, ?_⟩
      have hS : Adds wg wg := Touch.refl _ _
      simp only [Act.put, List.setIfInBounds_toArray, List.set_cons_zero, List.set_cons_succ]
      refine H_call (i := 14) 89 17 #[.agg #[.int .i64 (M.plain a).k, .int .i64 (M.plain a).n, .float .f64 (M.plain a).b, .string ⟨(M.plain a).t.toArray⟩], .agg #[.int .i64 a.k, .int .i64 a.n, .float .f64 a.b, .string ⟨a.t.toArray⟩]] (by kernel_rfl) rfl rfl (by rfl) (by go_simp) (S1.out _) ?_
      rintro e wh ⟨rfl, hwh⟩
      have Awh := hid (Awg.out.trans hwh)
      refine ⟨_, fun w' => Adds wh w', rfl, Touch.refl _ _, fun w' h => hwh.trans h, ?_⟩
      have hS : Adds wh wh := Touch.refl _ _
      simp only [Act.put, List.setIfInBounds_toArray, List.set_cons_zero, List.set_cons_succ]
      refine H_put (i := 15) 90 (v := .bool true) rfl rfl (by kernel_rfl) (by kernel_rfl) (by kernel_rfl) (fun _ _ _ h => h) (Or.inl ⟨by rfl, fun w' hw' => ?_⟩) hS ?_
      · go_simp
      simp only [Act.put, List.setIfInBounds_toArray, List.set_cons_zero, List.set_cons_succ]
      refine H_put (i := 16) 6 (v := .bool true) rfl rfl (by kernel_rfl) (by kernel_rfl) (by kernel_rfl) (fun _ _ _ h => h) (Or.inl ⟨by rfl, fun w' hw' => ?_⟩) hS ?_
      · go_simp
      simp only [Act.put, List.setIfInBounds_toArray, List.set_cons_zero, List.set_cons_succ]
      refine wpAnyH_done (by kernel_rfl) ?_ _
      go_wp2_with fail
      go_ret
      exact ⟨rfl, (((((Touch.refl _ w).alloc _).alloc _).alloc _).trans HWE.out).trans Awh.out⟩
end Go.Proofs.Ytjmldloalieelaa
