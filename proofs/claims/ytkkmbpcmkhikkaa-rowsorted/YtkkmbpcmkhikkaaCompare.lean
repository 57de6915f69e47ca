/- Rows compared; lists of rows compared. -/
import Derived.Test.YtkkmbpcmkhikkaaRMem
import Derived.Deep.CutRange
import Derived.Deep.DeepCutAuto
namespace Go.Proofs.Ytkkmbpcmkhikkaa
open Go.RowKit

set_option maxRecDepth 100000 in
set_option maxHeartbeats 2000000 in
theorem compare_v (x y : Hd) (w : World) (hx : IsRow w x) (hy : IsRow w y) : Calls Try.prog 25 #[.slice x.a x.r.length x.cap, .slice y.a y.r.length y.cap, .func (.func 26) #[] #[]] w (Tells w (.int .i64 (M.rcmp x.r y.r))) := by
  obtain ⟨a, ca, r⟩ := x
  obtain ⟨a', cb, s⟩ := y
  have n1 : r.length ≤ 1000000 := hx.len
  have n2 : s.length ≤ 1000000 := hy.len
  have HX := hid (show VAt w a r from hx.at_)
  have HY := hid (show VAt w a' s from hy.at_)
  clear hx hy
  show Calls Try.prog 25 #[.slice a r.length ca, .slice a' s.length cb, .func (.func 26) #[] #[]] w (Tells w (.int .i64 (M.lcmp M.cmp r s)))
  rcases Nat.lt_or_ge s.length r.length with hmn | hmn
  all_goals
    go_enter Try.func25, Try.ntmps25
    go_wp2_with fail
    go_loopw [14] (fun iv wr => ∃ i : Nat, iv = .int .i64 (i : Int) ∧ i ≤ r.length ∧ i ≤ s.length ∧ Hid (M.lcmp M.cmp r s = M.lcmp M.cmp (r.drop i) (s.drop i) ∧ Adds w wr)) (fun iv _ => r.length - (intOf iv).toNat)
    case atStart => exact ⟨0, rfl, Nat.zero_le _, Nat.zero_le _, ⟨by simp, Touch.refl _ _⟩⟩
    case round =>
      obtain ⟨i, rfl, hi1, hi2, HI⟩ := hrel
      by_cases hlt : i < r.length ∧ i < s.length
      · obtain ⟨u, hu⟩ : ∃ u, r[i]? = some u := ⟨r[i], List.getElem?_eq_getElem hlt.1⟩
        obtain ⟨v, hv⟩ : ∃ v, s[i]? = some v := ⟨s[i], List.getElem?_eq_getElem hlt.2⟩
        have HE := hid (M.lcmp_step M.cmp hu hv)
        obtain ⟨b, o, ea, hu'⟩ := HX.out.get hu
        obtain ⟨b', o', ea', hv'⟩ := HY.out.get hv
        subst ea
        subst ea'
        have HU := hid hu'
        have HV := hid hv'
        have HA := hid HI.out.2
        have h1 : (i : Int) < (r.length : Int) := by omega
        have h2 : (i : Int) < (s.length : Int) := by omega
        clear hu hv hu' hv' hlt
        go_upto_region 4 with fail
        refine H_begin (S := fun w' => Adds wr w') (by kernel_rfl) ?_
        have hS : Adds wr wr.drew := (Touch.refl _ wr).drew
        refine H_put (i := 0) 17 (v := .func (.func 26) #[] #[]) rfl rfl (by kernel_rfl) (by kernel_rfl) (by kernel_rfl) (fun _ _ _ h => h) (Or.inl ⟨by rfl, fun w' hw' => ?_⟩) hS ?_
        · go_simp
        simp only [Act.put, List.setIfInBounds_toArray, List.set_cons_zero, List.set_cons_succ]
        refine H_put (i := 1) 18 (v := .slice (some ⟨b, o, none⟩) r.length ca) rfl rfl (by kernel_rfl) (by kernel_rfl) (by kernel_rfl) (fun _ _ _ h => h) (Or.inl ⟨by rfl, fun w' hw' => ?_⟩) hS ?_
        · go_simp
        simp only [Act.put, List.setIfInBounds_toArray, List.set_cons_zero, List.set_cons_succ]
        refine H_put (i := 2) 19 (v := .int .i64 (i : Int)) rfl rfl (by kernel_rfl) (by kernel_rfl) (by kernel_rfl) (fun _ _ _ h => h) (Or.inl ⟨by rfl, fun w' hw' => ?_⟩) hS ?_
        · go_simp
        simp only [Act.put, List.setIfInBounds_toArray, List.set_cons_zero, List.set_cons_succ]
        refine H_put (i := 3) 20 (v := .pointer (some ⟨b, o + i * 4, none⟩)) rfl rfl (by kernel_rfl) (by kernel_rfl) (by kernel_rfl) (fun _ _ _ h => h) (Or.inl ⟨by rfl, fun w' hw' => ?_⟩) hS ?_
        · go_simp
        simp only [Act.put, List.setIfInBounds_toArray, List.set_cons_zero, List.set_cons_succ]
        refine H_put (i := 4) 21 (v := .agg #[.int .i64 u.k, .int .i64 u.n, .float .f64 u.b, .string ⟨u.t.toArray⟩]) rfl rfl (by kernel_rfl) (by kernel_rfl) (by kernel_rfl) (fun _ _ _ h => h) (Or.inl ⟨by rfl, fun w' hw' => ?_⟩) hS ?_
        · obtain ⟨c0, c1, c2, c3⟩ := HU.out w' (HA.out.trans hw'); go_simp
        simp only [Act.put, List.setIfInBounds_toArray, List.set_cons_zero, List.set_cons_succ]
        refine H_put (i := 5) 22 (v := .slice (some ⟨b', o', none⟩) s.length cb) rfl rfl (by kernel_rfl) (by kernel_rfl) (by kernel_rfl) (fun _ _ _ h => h) (Or.inl ⟨by rfl, fun w' hw' => ?_⟩) hS ?_
        · go_simp
        simp only [Act.put, List.setIfInBounds_toArray, List.set_cons_zero, List.set_cons_succ]
        refine H_put (i := 6) 23 (v := .int .i64 (i : Int)) rfl rfl (by kernel_rfl) (by kernel_rfl) (by kernel_rfl) (fun _ _ _ h => h) (Or.inl ⟨by rfl, fun w' hw' => ?_⟩) hS ?_
        · go_simp
        simp only [Act.put, List.setIfInBounds_toArray, List.set_cons_zero, List.set_cons_succ]
        refine H_put (i := 7) 24 (v := .pointer (some ⟨b', o' + i * 4, none⟩)) rfl rfl (by kernel_rfl) (by kernel_rfl) (by kernel_rfl) (fun _ _ _ h => h) (Or.inl ⟨by rfl, fun w' hw' => ?_⟩) hS ?_
        · go_simp
        simp only [Act.put, List.setIfInBounds_toArray, List.set_cons_zero, List.set_cons_succ]
        refine H_put (i := 8) 25 (v := .agg #[.int .i64 v.k, .int .i64 v.n, .float .f64 v.b, .string ⟨v.t.toArray⟩]) rfl rfl (by kernel_rfl) (by kernel_rfl) (by kernel_rfl) (fun _ _ _ h => h) (Or.inl ⟨by rfl, fun w' hw' => ?_⟩) hS ?_
        · obtain ⟨c0, c1, c2, c3⟩ := HV.out w' (HA.out.trans hw'); go_simp
        simp only [Act.put, List.setIfInBounds_toArray, List.set_cons_zero, List.set_cons_succ]
        refine H_call (i := 9) 26 26 #[.agg #[.int .i64 u.k, .int .i64 u.n, .float .f64 u.b, .string ⟨u.t.toArray⟩], .agg #[.int .i64 v.k, .int .i64 v.n, .float .f64 v.b, .string ⟨v.t.toArray⟩]] (by kernel_rfl) rfl rfl (by rfl) (by go_simp) (cmp_any _ _ _) ?_
        rintro e wa ⟨rfl, hwa⟩
        have Awa := hid (Touch.trans hS hwa)
        refine ⟨_, fun w' => Adds wa w', rfl, Touch.refl _ _, fun w' h => Awa.out.trans h, ?_⟩
        clear hS
        have hS : Adds wa wa := Touch.refl _ _
        simp only [Act.put, List.setIfInBounds_toArray, List.set_cons_zero, List.set_cons_succ]
        obtain ⟨z, hz⟩ : ∃ z, M.cmp u v = z := ⟨_, rfl⟩
        rw [hz]
        refine H_put (i := 10) 8 (v := .int .i64 z) rfl rfl (by kernel_rfl) (by kernel_rfl) (by kernel_rfl) (fun _ _ _ h => h) (Or.inl ⟨by rfl, fun w' hw' => ?_⟩) hS ?_
        · go_simp
        simp only [Act.put, List.setIfInBounds_toArray, List.set_cons_zero, List.set_cons_succ]
        refine wpAnyH_done (by kernel_rfl) ?_ _
        simp only [hz] at HE
        by_cases z0 : z = 0
        · subst z0
          have HF := hid (show M.lcmp M.cmp r s = M.lcmp M.cmp (r.drop (i + 1)) (s.drop (i + 1)) by rw [HI.out.1, HE.out, if_pos rfl])
          go_wp2_with fail
          go_roundw
          case rel => exact ⟨i + 1, by go_num, by omega, by omega, ⟨HF.out, HA.out.trans Awa.out⟩⟩
          case measure => simp [intOf]; omega
        · have HF := hid (show M.lcmp M.cmp r s = z by rw [HI.out.1, HE.out, if_neg z0])
          have z1 : (z != 0) = true := by simpa using z0
          go_wp2_with fail
          go_ret
          exact ⟨by rw [HF.out]; rfl, HA.out.trans Awa.out⟩
      · have HF := hid (show M.lcmp M.cmp r s = M.cmp3 (r.length : Int) (s.length : Int) by rw [HI.out.1]; exact M.lcmp_last _ (by omega) hi1 hi2)
        have h1 : ¬ (i : Int) < (r.length : Int) ∨ ¬ (i : Int) < (s.length : Int) := by omega
        go_wp2_with (first | (go_at_call 41; refine (cmp43 _ _ _).mono ?_; rintro e w' ⟨rfl, hw⟩; obtain rfl := hw.symm))
        go_ret
        exact ⟨by rw [HF.out]; rfl, HI.out.2⟩

theorem row_cmp (x y : Hd) (w : World) (hx : IsRow w x) (hy : IsRow w y) : Calls Try.prog 11 #[.slice x.a x.r.length x.cap, .slice y.a y.r.length y.cap] w (Tells w (.int .i64 (M.rcmp x.r y.r))) := by
  have HC := hid (compare_v x y w hx hy)
  clear hx hy
  go_enter Try.func11, Try.ntmps11
  go_wp2_with (first | (go_at_call 25; refine HC.out.mono ?_; rintro e w1 ⟨rfl, hA⟩; have A1 := hid hA; clear hA))
  go_ret
  exact ⟨rfl, A1.out⟩
set_option maxRecDepth 100000 in
set_option maxHeartbeats 2000000 in
theorem compare_r (a a' : Option Addr) (ca cb : Nat) (r s : List Hd) (w : World) (hx : HAt w a r) (hy : HAt w a' s) (n1 : r.length ≤ 1000000) (n2 : s.length ≤ 1000000) (rx : ∀ x ∈ r, IsRow w x) (ry : ∀ x ∈ s, IsRow w x) : Calls Try.prog 23 #[.slice a r.length ca, .slice a' s.length cb, .func (.func 11) #[] #[]] w (Tells w (.int .i64 (M.lcmp (fun x y => M.rcmp x.r y.r) r s))) := by
  have HX := hid hx
  have HY := hid hy
  have RX := hid rx
  have RY := hid ry
  clear hx hy rx ry
  rcases Nat.lt_or_ge s.length r.length with hmn | hmn
  all_goals
    go_enter Try.func23, Try.ntmps23
    go_wp2_with fail
    go_loopw [14] (fun iv wr => ∃ i : Nat, iv = .int .i64 (i : Int) ∧ i ≤ r.length ∧ i ≤ s.length ∧ Hid (M.lcmp (fun x y : Hd => M.rcmp x.r y.r) r s = M.lcmp (fun x y : Hd => M.rcmp x.r y.r) (r.drop i) (s.drop i) ∧ Adds w wr)) (fun iv _ => r.length - (intOf iv).toNat)
    case atStart => exact ⟨0, rfl, Nat.zero_le _, Nat.zero_le _, ⟨by simp, Touch.refl _ _⟩⟩
    case round =>
      obtain ⟨i, rfl, hi1, hi2, HI⟩ := hrel
      by_cases hlt : i < r.length ∧ i < s.length
      · obtain ⟨u, hu⟩ : ∃ u, r[i]? = some u := ⟨r[i], List.getElem?_eq_getElem hlt.1⟩
        obtain ⟨v, hv⟩ : ∃ v, s[i]? = some v := ⟨s[i], List.getElem?_eq_getElem hlt.2⟩
        have HE := hid (M.lcmp_step (fun x y : Hd => M.rcmp x.r y.r) hu hv)
        have RU := hid (RX.out u (List.mem_of_getElem? hu))
        have RV := hid (RY.out v (List.mem_of_getElem? hv))
        obtain ⟨b, o, ea, hu'⟩ := HX.out.get hu
        obtain ⟨b', o', ea', hv'⟩ := HY.out.get hv
        subst ea
        subst ea'
        have HU := hid hu'
        have HV := hid hv'
        have HA := hid HI.out.2
        have h1 : (i : Int) < (r.length : Int) := by omega
        have h2 : (i : Int) < (s.length : Int) := by omega
        clear hu hv hu' hv' hlt
        go_upto_region 4 with fail
        refine H_begin (S := fun w' => Adds wr w') (by kernel_rfl) ?_
        have hS : Adds wr wr.drew := (Touch.refl _ wr).drew
        refine H_put (i := 0) 17 (v := .func (.func 11) #[] #[]) rfl rfl (by kernel_rfl) (by kernel_rfl) (by kernel_rfl) (fun _ _ _ h => h) (Or.inl ⟨by rfl, fun w' hw' => ?_⟩) hS ?_
        · go_simp
        simp only [Act.put, List.setIfInBounds_toArray, List.set_cons_zero, List.set_cons_succ]
        refine H_put (i := 1) 18 (v := .slice (some ⟨b, o, none⟩) r.length ca) rfl rfl (by kernel_rfl) (by kernel_rfl) (by kernel_rfl) (fun _ _ _ h => h) (Or.inl ⟨by rfl, fun w' hw' => ?_⟩) hS ?_
        · go_simp
        simp only [Act.put, List.setIfInBounds_toArray, List.set_cons_zero, List.set_cons_succ]
        refine H_put (i := 2) 19 (v := .int .i64 (i : Int)) rfl rfl (by kernel_rfl) (by kernel_rfl) (by kernel_rfl) (fun _ _ _ h => h) (Or.inl ⟨by rfl, fun w' hw' => ?_⟩) hS ?_
        · go_simp
        simp only [Act.put, List.setIfInBounds_toArray, List.set_cons_zero, List.set_cons_succ]
        refine H_put (i := 3) 20 (v := .pointer (some ⟨b, o + i, none⟩)) rfl rfl (by kernel_rfl) (by kernel_rfl) (by kernel_rfl) (fun _ _ _ h => h) (Or.inl ⟨by rfl, fun w' hw' => ?_⟩) hS ?_
        · go_simp
        simp only [Act.put, List.setIfInBounds_toArray, List.set_cons_zero, List.set_cons_succ]
        refine H_put (i := 4) 21 (v := .slice u.a u.r.length u.cap) rfl rfl (by kernel_rfl) (by kernel_rfl) (by kernel_rfl) (fun _ _ _ h => h) (Or.inl ⟨by rfl, fun w' hw' => ?_⟩) hS ?_
        · have c0 := HU.out w' (HA.out.trans hw'); go_simp
        simp only [Act.put, List.setIfInBounds_toArray, List.set_cons_zero, List.set_cons_succ]
        refine H_put (i := 5) 22 (v := .slice (some ⟨b', o', none⟩) s.length cb) rfl rfl (by kernel_rfl) (by kernel_rfl) (by kernel_rfl) (fun _ _ _ h => h) (Or.inl ⟨by rfl, fun w' hw' => ?_⟩) hS ?_
        · go_simp
        simp only [Act.put, List.setIfInBounds_toArray, List.set_cons_zero, List.set_cons_succ]
        refine H_put (i := 6) 23 (v := .int .i64 (i : Int)) rfl rfl (by kernel_rfl) (by kernel_rfl) (by kernel_rfl) (fun _ _ _ h => h) (Or.inl ⟨by rfl, fun w' hw' => ?_⟩) hS ?_
        · go_simp
        simp only [Act.put, List.setIfInBounds_toArray, List.set_cons_zero, List.set_cons_succ]
        refine H_put (i := 7) 24 (v := .pointer (some ⟨b', o' + i, none⟩)) rfl rfl (by kernel_rfl) (by kernel_rfl) (by kernel_rfl) (fun _ _ _ h => h) (Or.inl ⟨by rfl, fun w' hw' => ?_⟩) hS ?_
        · go_simp
        simp only [Act.put, List.setIfInBounds_toArray, List.set_cons_zero, List.set_cons_succ]
        refine H_put (i := 8) 25 (v := .slice v.a v.r.length v.cap) rfl rfl (by kernel_rfl) (by kernel_rfl) (by kernel_rfl) (fun _ _ _ h => h) (Or.inl ⟨by rfl, fun w' hw' => ?_⟩) hS ?_
        · have c0 := HV.out w' (HA.out.trans hw'); go_simp
        simp only [Act.put, List.setIfInBounds_toArray, List.set_cons_zero, List.set_cons_succ]
        refine H_call (i := 9) 26 11 #[.slice u.a u.r.length u.cap, .slice v.a v.r.length v.cap] (by kernel_rfl) rfl rfl (by rfl) (by go_simp) (row_cmp u v _ ((RU.out.adds HA.out).adds hS) ((RV.out.adds HA.out).adds hS)) ?_
        rintro e wa ⟨rfl, hwa⟩
        have Awa := hid (Touch.trans hS hwa)
        refine ⟨_, fun w' => Adds wa w', rfl, Touch.refl _ _, fun w' h => Awa.out.trans h, ?_⟩
        clear hS
        have hS : Adds wa wa := Touch.refl _ _
        simp only [Act.put, List.setIfInBounds_toArray, List.set_cons_zero, List.set_cons_succ]
        obtain ⟨z, hz⟩ : ∃ z, M.rcmp u.r v.r = z := ⟨_, rfl⟩
        rw [hz]
        refine H_put (i := 10) 8 (v := .int .i64 z) rfl rfl (by kernel_rfl) (by kernel_rfl) (by kernel_rfl) (fun _ _ _ h => h) (Or.inl ⟨by rfl, fun w' hw' => ?_⟩) hS ?_
        · go_simp
        simp only [Act.put, List.setIfInBounds_toArray, List.set_cons_zero, List.set_cons_succ]
        refine wpAnyH_done (by kernel_rfl) ?_ _
        simp only [hz] at HE
        by_cases z0 : z = 0
        · subst z0
          have HF := hid (show M.lcmp (fun x y : Hd => M.rcmp x.r y.r) r s = M.lcmp (fun x y : Hd => M.rcmp x.r y.r) (r.drop (i + 1)) (s.drop (i + 1)) by rw [HI.out.1, HE.out, if_pos rfl])
          go_wp2_with fail
          go_roundw
          case rel => exact ⟨i + 1, by go_num, by omega, by omega, ⟨HF.out, HA.out.trans Awa.out⟩⟩
          case measure => simp [intOf]; omega
        · have HF := hid (show M.lcmp (fun x y : Hd => M.rcmp x.r y.r) r s = z by rw [HI.out.1, HE.out, if_neg z0])
          have z1 : (z != 0) = true := by simpa using z0
          go_wp2_with fail
          go_ret
          exact ⟨by rw [HF.out]; rfl, HA.out.trans Awa.out⟩
      · have HF := hid (show M.lcmp (fun x y : Hd => M.rcmp x.r y.r) r s = M.cmp3 (r.length : Int) (s.length : Int) by rw [HI.out.1]; exact M.lcmp_last _ (by omega) hi1 hi2)
        have h1 : ¬ (i : Int) < (r.length : Int) ∨ ¬ (i : Int) < (s.length : Int) := by omega
        go_wp2_with (first | (go_at_call 41; refine (cmp43 _ _ _).mono ?_; rintro e w' ⟨rfl, hw⟩; obtain rfl := hw.symm))
        go_ret
        exact ⟨by rw [HF.out]; rfl, HI.out.2⟩

end Go.Proofs.Ytkkmbpcmkhikkaa
