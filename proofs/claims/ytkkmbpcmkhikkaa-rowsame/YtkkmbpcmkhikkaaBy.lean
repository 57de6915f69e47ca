/- Rows compared by an order. -/
import Derived.Test.YtkkmbpcmkhikkaaCat
import Derived.Test.YtkkmbpcmkhikkaaBags
import Derived.Deep.CutRange
import Derived.Deep.DeepCutAuto
namespace Go.Proofs.Ytkkmbpcmkhikkaa
open Go.RowKit

set_option maxHeartbeats 1000000 in
theorem at_any (x : Hd) (p : Int) (w : World) (hx : IsRow w x) : Calls Try.prog 56 #[.slice x.a x.r.length x.cap, .int .i64 p] w (Tells w (VV (M.at_ x.r p))) := by
  obtain ⟨a, ca, r⟩ := x
  have HX := hid (show VAt w a r from hx.at_)
  have hs := hst
  clear hx
  show Calls Try.prog 56 #[.slice a r.length ca, .int .i64 p] w (Tells w (VV (M.at_ r p)))
  by_cases h0 : p < 0
  · have HF := hid (show M.at_ r p = M.V0 by unfold M.at_; rw [if_pos (.inl h0)])
    go_enter Try.func56, Try.ntmps56
    go_wp2_with fail
    rw [HF.out]
    refine bodyPost_ret (v := .agg #[.int .i64 0, .int .i64 0, .float .f64 0, .string ⟨#[]⟩]) (by simp [results, Try.results56, go_sem]) rfl ⟨rfl, ?_⟩
    first | exact (Touch.refl _ w).alloc _ | exact set4 w.heap.size (Nat.le_refl _) ((Touch.refl _ w).alloc _)
  · by_cases h1 : (r.length : Int) ≤ p
    · have HF := hid (show M.at_ r p = M.V0 by unfold M.at_; rw [if_pos (.inr h1)])
      go_enter Try.func56, Try.ntmps56
      go_wp2_with fail
      rw [HF.out]
      refine bodyPost_ret (v := .agg #[.int .i64 0, .int .i64 0, .float .f64 0, .string ⟨#[]⟩]) (by simp [results, Try.results56, go_sem]) rfl ⟨rfl, ?_⟩
      first | exact (Touch.refl _ w).alloc _ | exact set4 w.heap.size (Nat.le_refl _) ((Touch.refl _ w).alloc _)
    · obtain ⟨i, rfl⟩ : ∃ i : Nat, p = (i : Int) := ⟨p.toNat, by omega⟩
      obtain ⟨v, hv⟩ : ∃ v, r[i]? = some v := ⟨r[i]'(by omega), List.getElem?_eq_getElem _⟩
      have HF := hid (show M.at_ r (i : Int) = v by unfold M.at_; rw [if_neg (by omega)]; simp [hv])
      obtain ⟨b, o, ea, hu⟩ := HX.out.get hv
      subst ea
      obtain ⟨c0, c1, c2, c3⟩ := hu (w.alloc (.cells #[.int .i64 0, .int .i64 0, .float .f64 0, .string ⟨#[]⟩] 47)) ((Touch.refl _ w).alloc _)
      have h2 : (i : Int) < (r.length : Int) := by omega
      clear hu hv h0 h1
      go_enter Try.func56, Try.ntmps56
      go_wp2_with fail
      rw [HF.out]
      refine bodyPost_ret (v := .agg #[.int .i64 v.k, .int .i64 v.n, .float .f64 v.b, .string ⟨v.t.toArray⟩]) (by simp [results, Try.results56, go_sem]) rfl ⟨rfl, ?_⟩
      first | exact (Touch.refl _ w).alloc _ | exact set4 w.heap.size (Nat.le_refl _) ((Touch.refl _ w).alloc _)

/-- Where an order's keys lie. -/
def KAt (w : World) (a : Option Addr) (o : List (Int × Bool)) : Prop := ∀ (j : Nat) (k : Int × Bool), o[j]? = some k → ∃ b off, a = some ⟨b, off, none⟩ ∧ w.cell? ⟨b, off + j * 2, none⟩ = some (.int .i64 k.1) ∧ w.cell? ⟨b, off + j * 2 + 1, none⟩ = some (.bool k.2)
theorem KAt.adds {w w' : World} {a : Option Addr} {o : List (Int × Bool)} (h : KAt w a o) (hA : Adds w w') : KAt w' a o := by
  intro j k hj
  obtain ⟨b, off, e, h0, h1⟩ := h j k hj
  have e2 := hA.block b (World.block_lt_of_cell? w _ h0) id
  exact ⟨b, off, e, by rw [World.cell?_of_block (w := w) e2]; exact h0, by rw [World.cell?_of_block (w := w) e2]; exact h1⟩
set_option maxRecDepth 100000 in
set_option maxHeartbeats 2000000 in
theorem by_any (ka : Option Addr) (kcap : Nat) (o : List (Int × Bool)) (x y : Hd) (w : World) (hk : KAt w ka o) (hl : o.length ≤ 1000000) (hx : IsRow w x) (hy : IsRow w y) : Calls Try.prog 39 #[.slice ka o.length kcap, .slice x.a x.r.length x.cap, .slice y.a y.r.length y.cap] w (Tells w (.int .i64 (M.bycmp o x.r y.r))) := by
  have HX0 := hid hx
  have HY0 := hid hy
  have HK := hid hk
  clear hx hy hk
  go_enter Try.func39, Try.ntmps39
  go_wp2_with fail
  go_loopw [12] (fun iv wr => ∃ i : Nat, iv = .int .i64 (i : Int) ∧ i ≤ o.length ∧ Hid (M.bycmp o x.r y.r = M.bycmp (o.drop i) x.r y.r ∧ Adds w wr)) (fun iv _ => o.length - (intOf iv).toNat)
  case atStart => exact ⟨0, rfl, Nat.zero_le _, by simp, Touch.refl _ _⟩
  case round =>
    obtain ⟨i, rfl, hi, HI⟩ := hrel
    by_cases hlt : i < o.length
    · have hltz : (i : Int) < (o.length : Int) := by omega
      obtain ⟨k, hk⟩ : ∃ k, o[i]? = some k := ⟨o[i], List.getElem?_eq_getElem hlt⟩
      have HE0 := hid (M.bycmp_step hk x.r y.r)
      obtain ⟨b, off, ea, c0, c1⟩ := (HK.out.adds HI.out.2) i k hk
      obtain ⟨p, d⟩ := k
      simp only at c0 c1
      subst ea
      clear hk
      go_upto_region 4 with fail
      clear c0 c1
      have HB0 := hid (fun (w' : World) (hA : Adds (wr.alloc (.cells #[.int .i64 p, .bool d] 44)) w') => kept hA (heap_alloc_new wr _))
      have HA := hid (show Adds w (wr.alloc (.cells #[.int .i64 p, .bool d] 44)) from HI.out.2.alloc _)
      generalize wr.alloc (.cells #[.int .i64 p, .bool d] 44) = wk at *
      generalize wr.heap.size = kb at *
      have HB := hid (fun (w' : World) (hA : Adds wk w') => by
        have h := HB0.out w' hA
        have c0 := cellOf h 0
        have c1 := cellOf h 1
        simp at c0 c1
        exact And.intro c0 c1)
      have HX := hid HX0.out
      have HY := hid HY0.out
      refine H_begin (S := fun w' => Adds wk w') (by kernel_rfl) ?_
      have hS : Adds wk wk.drew := (Touch.refl _ wk).drew
      refine H_put (i := 0) 16 (v := .slice x.a x.r.length x.cap) rfl rfl (by kernel_rfl) (by kernel_rfl) (by kernel_rfl) (fun _ _ _ h => h) (Or.inl ⟨by rfl, fun w' hw' => ?_⟩) hS ?_
      · go_simp
      simp only [Act.put, List.setIfInBounds_toArray, List.set_cons_zero, List.set_cons_succ]
      refine H_put (i := 1) 17 (v := .pointer (some ⟨kb, 0, none⟩)) rfl rfl (by kernel_rfl) (by kernel_rfl) (by kernel_rfl) (fun _ _ _ h => h) (Or.inl ⟨by rfl, fun w' hw' => ?_⟩) hS ?_
      · go_simp
      simp only [Act.put, List.setIfInBounds_toArray, List.set_cons_zero, List.set_cons_succ]
      refine H_put (i := 2) 18 (v := .int .i64 p) rfl rfl (by kernel_rfl) (by kernel_rfl) (by kernel_rfl) (fun _ _ _ h => h) (Or.inl ⟨by rfl, fun w' hw' => ?_⟩) hS ?_
      · have c0 := (HB.out w' hw').1; go_simp
      simp only [Act.put, List.setIfInBounds_toArray, List.set_cons_zero, List.set_cons_succ]
      refine H_put (i := 4) 20 (v := .slice y.a y.r.length y.cap) rfl rfl (by kernel_rfl) (by kernel_rfl) (by kernel_rfl) (fun _ _ _ h => h) (Or.inl ⟨by rfl, fun w' hw' => ?_⟩) hS ?_
      · go_simp
      simp only [Act.put, List.setIfInBounds_toArray, List.set_cons_zero, List.set_cons_succ]
      refine H_put (i := 5) 21 (v := .pointer (some ⟨kb, 0, none⟩)) rfl rfl (by kernel_rfl) (by kernel_rfl) (by kernel_rfl) (fun _ _ _ h => h) (Or.inl ⟨by rfl, fun w' hw' => ?_⟩) hS ?_
      · go_simp
      simp only [Act.put, List.setIfInBounds_toArray, List.set_cons_zero, List.set_cons_succ]
      refine H_put (i := 6) 22 (v := .int .i64 p) rfl rfl (by kernel_rfl) (by kernel_rfl) (by kernel_rfl) (fun _ _ _ h => h) (Or.inl ⟨by rfl, fun w' hw' => ?_⟩) hS ?_
      · have c0 := (HB.out w' hw').1; go_simp
      simp only [Act.put, List.setIfInBounds_toArray, List.set_cons_zero, List.set_cons_succ]
      refine H_call (i := 3) 19 56 #[.slice x.a x.r.length x.cap, .int .i64 p] (R := Tells wk.drew (VV (M.at_ x.r p))) (by kernel_rfl) rfl rfl (by rfl) (by go_simp) ?_ ?_
      · exact at_any x p _ ((HX.out.adds HA.out).adds hS)
      rintro e wa ⟨rfl, hwa⟩
      have Awa := hid (Touch.trans hS hwa)
      refine ⟨_, fun w' => Adds wa w', rfl, Touch.refl _ _, fun w' h => Awa.out.trans h, ?_⟩
      clear hS
      have hS : Adds wa wa := Touch.refl _ _
      simp only [Act.put, List.setIfInBounds_toArray, List.set_cons_zero, List.set_cons_succ]
      refine H_call (i := 7) 23 56 #[.slice y.a y.r.length y.cap, .int .i64 p] (R := Tells wa (VV (M.at_ y.r p))) (by kernel_rfl) rfl rfl (by rfl) (by go_simp) ?_ ?_
      · exact at_any y p _ ((HY.out.adds HA.out).adds Awa.out)
      rintro e wb ⟨rfl, hwb⟩
      have Awb := hid (Touch.trans Awa.out hwb)
      refine ⟨_, fun w' => Adds wb w', rfl, Touch.refl _ _, fun w' h => hwb.trans h, ?_⟩
      clear hS
      have hS : Adds wb wb := Touch.refl _ _
      simp only [Act.put, List.setIfInBounds_toArray, List.set_cons_zero, List.set_cons_succ]
      refine H_call (i := 8) 24 26 #[VV (M.at_ x.r p), VV (M.at_ y.r p)] (R := Tells wb (.int .i64 (M.cmp (M.at_ x.r p) (M.at_ y.r p)))) (by kernel_rfl) rfl rfl (by rfl) (by go_simp) ?_ ?_
      · exact cmp_any _ _ _
      rintro e wd ⟨rfl, hwd⟩
      have Awd := hid (Touch.trans Awb.out hwd)
      refine ⟨_, fun w' => Adds wd w', rfl, Touch.refl _ _, fun w' h => hwd.trans h, ?_⟩
      clear hS
      have hS : Adds wd wd := Touch.refl _ _
      simp only [Act.put, List.setIfInBounds_toArray, List.set_cons_zero, List.set_cons_succ]
      have HE := hid HE0.out
      simp only at HE
      have hzz := M.cmp_low (M.at_ x.r p) (M.at_ y.r p)
      generalize M.cmp (M.at_ x.r p) (M.at_ y.r p) = z at *
      refine H_put (i := 9) 9 (v := .int .i64 z) rfl rfl (by kernel_rfl) (by kernel_rfl) (by kernel_rfl) (fun _ _ _ h => h) (Or.inl ⟨by rfl, fun w' hw' => ?_⟩) hS ?_
      · go_simp
      simp only [Act.put, List.setIfInBounds_toArray, List.set_cons_zero, List.set_cons_succ]
      refine wpAnyH_done (by kernel_rfl) ?_ _
      have AW := hid (HA.out.trans Awd.out)
      obtain ⟨_, k1⟩ := HB.out _ Awd.out
      clear hS
      by_cases z0 : z = 0
      · subst z0
        have HF := hid (show M.bycmp o x.r y.r = M.bycmp (o.drop (i + 1)) x.r y.r by rw [HI.out.1, HE.out, if_pos rfl])
        go_wp2_with fail
        go_roundw
        case rel => exact ⟨i + 1, by go_num, by omega, HF.out, AW.out⟩
        case measure => simp [intOf]; omega
      · have z1 : (z == 0) = false := by simpa using z0
        cases d with
        | true =>
          have HF := hid (show M.bycmp o x.r y.r = -z by rw [HI.out.1, HE.out, if_neg z0, if_pos rfl])
          have z2 : wrap64 (-z) = -z := by unfold wrap64; omega
          go_wp2_with fail
          go_ret
          exact ⟨by rw [HF.out]; rfl, AW.out⟩
        | false =>
          have HF := hid (show M.bycmp o x.r y.r = z by rw [HI.out.1, HE.out, if_neg z0, if_neg (by simp)])
          go_wp2_with fail
          go_ret
          exact ⟨by rw [HF.out]; rfl, AW.out⟩
    · have hltz : ¬ (i : Int) < (o.length : Int) := by omega
      have HF := hid (show M.bycmp o x.r y.r = 0 by rw [HI.out.1, List.drop_of_length_le (by omega)]; rfl)
      go_wp2_with fail
      go_ret
      exact ⟨by rw [HF.out]; rfl, HI.out.2⟩
set_option maxHeartbeats 400000 in
/-- The function that is handed to the sorting. -/
theorem by1_any (pb : Nat) (ka : Option Addr) (kcap : Nat) (o : List (Int × Bool)) (x y : Hd) (w : World) (hc : w.cell? ⟨pb, 0, none⟩ = some (.slice ka o.length kcap)) (hk : KAt w ka o) (hl : o.length ≤ 1000000) (hx : IsRow w x) (hy : IsRow w y) : Calls Try.prog 38 #[.slice x.a x.r.length x.cap, .slice y.a y.r.length y.cap, .pointer (some ⟨pb, 0, none⟩)] w (Tells w (.int .i64 (M.bycmp o x.r y.r))) := by
  have HB := hid (by_any ka kcap o x y w hk hl hx hy)
  clear hk hx hy
  go_enter Try.func38, Try.ntmps38
  go_wp2_with (first | (go_at_call 39; refine HB.out.mono ?_; rintro e w1 ⟨rfl, hA⟩; have A1 := hid hA; clear hA))
  go_ret
  exact ⟨rfl, A1.out⟩
set_option maxHeartbeats 400000 in
theorem by_fun (v : Value) (w : World) (hv : v.oneCell' = true) (ka : Option Addr) (n kcap : Nat) (hs : v = .slice ka n kcap) : Calls Try.prog 21 #[v] w fun e w' => e = .returned (.func (.func 38) #[] #[.pointer (some ⟨w.heap.size, 0, none⟩)]) ∧ w' = w.alloc (.cells #[v] 23) := by
  subst hs
  clear hv
  go_enter Try.func21, Try.ntmps21
  go_wp2_with fail
  go_ret
  exact ⟨rfl, rfl⟩
end Go.Proofs.Ytkkmbpcmkhikkaa
