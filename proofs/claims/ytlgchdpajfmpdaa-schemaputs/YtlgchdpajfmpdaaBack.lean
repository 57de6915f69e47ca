/- A table that may be is put, and taken as it was: the walk of SchemaBack. -/
import Derived.Test.YtlgchdpajfmpdaaFits0
namespace Go.Proofs.Ytlgchdpajfmpdaa
open Go.RowKit

theorem name_z (s : List UInt8) (h : M.name s = true) (w : World) : Calls Try.prog 8 #[.string ⟨s.toArray⟩] w (Tells w (.bool true)) := by
  have := name_any s w
  rw [h] at this; exact this
theorem column_z (n : List UInt8) (a : Option Addr) (cap : Nat) (cs : List M.Col) (nm : List UInt8) (i : Nat) (hi : M.idx (fun d => decide (d.1 = nm)) cs = some i) (w : World) (hA : ColAt w a cs) (hl : cs.length ≤ 1000) : Calls Try.prog 12 #[.agg #[.string ⟨n.toArray⟩, .slice a cs.length cap], .string ⟨nm.toArray⟩] w (Tells w (.int .i64 (i : Int))) := by
  have := column_any n a cap cs nm w hA hl
  rw [hi] at this; exact this
theorem great_z (n : List UInt8) (a : Option Addr) (cap : Nat) (cs : List M.Col) (z : Bool) (hz : great n cs = z) (w : World) (hA : ColAt w a cs) : Calls Try.prog 7 #[.agg #[.string ⟨n.toArray⟩, .slice a cs.length cap]] w (Tells w (.bool z)) := by
  subst hz
  exact great_any n a cap cs w hA
theorem fits_z (n : List UInt8) (a : Option Addr) (cap : Nat) (cs : List M.Col) (g m : Nat) (z : Bool) (hz : decide (m = cs.length) = z) (w : World) (hm : m ≤ 1000) (hZ : ZAt w g m) : Calls Try.prog 14 #[.agg #[.string ⟨n.toArray⟩, .slice a cs.length cap], .slice (some ⟨g, 0, none⟩) m m] w (Tells w (.bool z)) := by
  subst hz
  exact fits_nulls n a cap cs g m w hm hZ
theorem takeT_z (p : Nat) (s : M.St) (z : Nat) (tn : List UInt8) (tc : List M.Col) (st : M.St) (hz : M.tErr s = z) (htn : M.tabN s = tn) (htc : M.tabC s = tc) (hst : M.tSt s = st) (w : World) (h : RD w (.pointer (some ⟨p, 0, none⟩)) s) :
    Calls Try.prog 22 #[.pointer (some ⟨p, 0, none⟩)] w (fun e w' => ∃ a' cap', e = .returned (.tuple #[.agg #[.string ⟨tn.toArray⟩, .slice a' tc.length cap'], .int .i64 (z : Int)]) ∧ Hid (ColAt w' a' tc ∧ (a' = none → cap' = 0) ∧ RD w' (.pointer (some ⟨p, 0, none⟩)) st ∧ Touch (Own1 (.pointer (some ⟨p, 0, none⟩))) w w')) := by
  subst hz htn htc hst
  exact takeT_any p s w h
/-- What is taken of a table that may be. -/
theorem take_back {n : List UInt8} {cs : List M.Col} (r : List UInt8) (h : M.right n cs = 0) : M.tErr ⟨0, M.putT n cs ++ r⟩ = 0 ∧ M.tabN ⟨0, M.putT n cs ++ r⟩ = n ∧ M.tabC ⟨0, M.putT n cs ++ r⟩ = cs ∧ M.tSt ⟨0, M.putT n cs ++ r⟩ = ⟨0, r⟩ := by
  obtain ⟨r1, r2, r3, r4, r5⟩ := M.right_ok h
  obtain ⟨e1, e2, e3⟩ := M.put_taken (r := r) (name_len r1) r3 (fun c hc => by
    obtain ⟨b1, b2, b3⟩ := bad_name r4 c hc
    exact ⟨name_len b1, by omega, by omega⟩)
  have e0 : M.tErr ⟨0, M.putT n cs ++ r⟩ = 0 := by unfold M.tErr; rw [e3, if_neg (by simp), e1, e2]; exact h
  exact ⟨e0, by unfold M.tabN; rw [if_pos e0]; exact e1, by unfold M.tabC; rw [if_pos e0]; exact e2, e3⟩
set_option maxRecDepth 100000 in
set_option maxHeartbeats 4000000 in
theorem backLaw_any (n : List UInt8) (a : Option Addr) (cap : Nat) (cs : List M.Col) (a1 : Option Addr) (bs : List UInt8) (cap1 : Nat) (w : World) (hA : ColAt w a cs) (h1 : At w a1 bs) (hcap1 : a1 = none → cap1 = 0) (hbl : bs.length ≤ maxLen) :
    Calls Try.prog 5 #[.agg #[.string ⟨n.toArray⟩, .slice a cs.length cap], .slice a1 bs.length cap1] w (Tells w (.bool true)) := by
  have A0 := hid (show Adds w (w.alloc (.cells #[.string ⟨n.toArray⟩, .slice a cs.length cap] 24)) from (Touch.refl _ w).alloc _)
  have HB := hid (fun w' => two_new w (.string ⟨n.toArray⟩) (.slice a cs.length cap) 24 (w' := w'))
  have HC := hid (fun w' (h : Adds (w.alloc (.cells #[.string ⟨n.toArray⟩, .slice a cs.length cap] 24)) w') => (hA.adds A0.out).adds h)
  have H1 := hid (fun w' (h : Adds (w.alloc (.cells #[.string ⟨n.toArray⟩, .slice a cs.length cap] 24)) w') => (h1.adds A0.out).adds h)
  have H1c := hid hcap1
  have hbl2 : (bs.length : Int) ≤ 9223372036854775807 := by unfold maxLen at hbl; omega
  obtain ⟨z, hz⟩ : ∃ z, great n cs = z := ⟨_, rfl⟩
  have HG := hid (fun w' (h : Adds (w.alloc (.cells #[.string ⟨n.toArray⟩, .slice a cs.length cap] 24)) w') => great_z n a cap cs z hz w' (HC.out w' h))
  clear hA h1 hcap1 hbl
  cases z with
  | true =>
    clear hz
    go_enter Try.func5, Try.ntmps5
    go_wp2_with (first
      | (go_at_call 16; refine (works_any _).mono ?_; rintro e w1 ⟨rfl, hA⟩; have A1 := hid hA; obtain ⟨c0, c1⟩ := HB.out w1 hA; clear hA)
      | (go_at_call 7; refine (HG.out w1 A1.out).mono ?_; rintro e w2 ⟨rfl, hA⟩; have A2 := hid (A1.out.trans hA); clear hA))
    go_ret
    exact ⟨rfl, A0.out.trans A2.out⟩
  | false =>
    obtain ⟨g1, g2, g3⟩ := great_not hz
    clear hz
    by_cases h20 : 2000 < bs.length
    · have h20z : (2000 : Int) < (bs.length : Int) := by omega
      clear g1 g2 g3 h20
      go_enter Try.func5, Try.ntmps5
      go_wp2_with (first
        | (go_at_call 16; refine (works_any _).mono ?_; rintro e w1 ⟨rfl, hA⟩; have A1 := hid hA; obtain ⟨c0, c1⟩ := HB.out w1 hA; clear hA)
        | (go_at_call 7; refine (HG.out w1 A1.out).mono ?_; rintro e w2 ⟨rfl, hA⟩; have A2 := hid (A1.out.trans hA); clear hA))
      go_ret
      exact ⟨rfl, A0.out.trans A2.out⟩
    have h20z : ¬ (2000 : Int) < (bs.length : Int) := by omega
    obtain ⟨r, hr⟩ : ∃ r, M.right n cs = r := ⟨_, rfl⟩
    have HR := hid (fun w' (h : Adds (w.alloc (.cells #[.string ⟨n.toArray⟩, .slice a cs.length cap] 24)) w') => right_z n a cap cs r hr w' (HC.out w' h) (by omega))
    by_cases hr0 : r = 0
    · subst hr0
      obtain ⟨r1, r2, r3, r4, r5⟩ := M.right_ok hr
      obtain ⟨PT, hPT⟩ : ∃ l, M.putT n cs = l := ⟨_, rfl⟩
      obtain ⟨al, hal⟩ : ∃ l, PT ++ bs = l := ⟨_, rfl⟩
      obtain ⟨t1, t2, t3, t4⟩ := take_back bs hr
      rw [hPT, hal] at t1 t2 t3 t4
      have hpl : PT.length ≤ 1100000 := by rw [← hPT]; exact M.len_putT (by omega) (by omega) (fun c hc => by have := g3 c hc; omega)
      have hpl2 : PT.length ≤ 110000 := by
        have e1 := M.len_enc10 (n := n.length) (by omega)
        have e2 := M.len_enc10 (n := cs.length) (by omega)
        have e3 := M.len_colsB (r := cs) (fun c hc => by have := g3 c hc; omega)
        rw [← hPT, M.putT]
        simp only [List.length_append]
        omega
      have hall : al.length ≤ 1000000 := by rw [← hal, List.length_append]; omega
      have HPU := hid (fun w' (h : Adds (w.alloc (.cells #[.string ⟨n.toArray⟩, .slice a cs.length cap] 24)) w') => put_z n a cap cs PT hPT w' (HC.out w' h) (by omega) (by omega) (fun c hc => by have := g3 c hc; omega))
      have HRD := hid (fun a5 cap5 w5 (h : Lies w5 w5.heap.size a5 al cap5) => read_any a5 al cap5 w5 hall h.non h.at_)
      have HT := hid (fun p w6 (h : RD w6 (.pointer (some ⟨p, 0, none⟩)) ⟨0, al⟩) => takeT_z p ⟨0, al⟩ 0 n cs ⟨0, bs⟩ t1 t2 t3 t4 w6 h)
      have HSM := hid (fun a' cap' w' (h : Adds (w.alloc (.cells #[.string ⟨n.toArray⟩, .slice a cs.length cap] 24)) w') (hC : ColAt w' a' cs) => same_z n n a' a cap' cap cs cs true (by simp) w' hC (HC.out w' h) (by omega))
      have HAL := hid (And.intro hal.symm (show PT.length + bs.length ≤ 140737488355328 by omega))
      have HCO := hid (fun i c (hc : cs[i]? = some c) w' (h : Adds (w.alloc (.cells #[.string ⟨n.toArray⟩, .slice a cs.length cap] 24)) w') => column_z n a cap cs c.1 i (M.idx_name r5 hc) w' (HC.out w' h) (by omega))
      have HNM := hid (fun (i : Nat) (c : M.Col) (hc : cs[i]? = some c) w' => name_z c.1 (bad_name r4 c (List.mem_of_getElem? hc)).1 w')
      have hcl : cs.length ≤ 100 := g1
      clear hr r1 r2 r3 r4 r5 hPT hal t1 t2 t3 t4 hpl hpl2 hall g1 g2 g3 h20
      go_enter Try.func5, Try.ntmps5
      go_upto_region 9 with (first
        | (go_at_call 16; refine (works_any _).mono ?_; rintro e w1 ⟨rfl, hA⟩; have A1 := hid hA; obtain ⟨c0, c1⟩ := HB.out w1 hA; clear hA)
        | (go_at_call 7; refine (HG.out w1 A1.out).mono ?_; rintro e w2 ⟨rfl, hA⟩; have A2 := hid (A1.out.trans hA); clear hA c0 c1; obtain ⟨c0, c1⟩ := HB.out w2 A2.out)
        | (go_at_call 10; refine (HR.out w2 A2.out).mono ?_; rintro e w3 ⟨rfl, hA⟩; have A3 := hid (A2.out.trans hA); clear hA c0 c1; obtain ⟨c0, c1⟩ := HB.out w3 A3.out)
        | (go_at_call 17; refine (HPU.out w3 A3.out).mono ?_; rintro e w4 ⟨v4, rfl, h4, hA⟩; obtain ⟨a4, cap4, rfl, hL4⟩ := Own.lies h4; have P4 := hid h4; have A4 := hid (A3.out.trans hA); have B4 := hid hA; clear h4 hL4 hA c0 c1)
        | (at_builtin; refine append_bytes rfl _ _ rfl w3.heap.size _ PT.length (S PT) rfl P4.out a1 bs cap1 rfl H1c.out (H1.out _ A4.out) HAL.out.2 B4.out.size ?_; intro v5 w5 hown hgrow hne; obtain ⟨a5, cap5, rfl, hL5⟩ := Own.lies (own_app HAL.out.1 hown); have P5 := hid hL5; have A5 := hid (show Adds (w.alloc (.cells #[.string ⟨n.toArray⟩, .slice a cs.length cap] 24)) w5 from A3.out.trans (Touch.grown B4.out hgrow (fun j hj hlt => by have := (P4.out.lt j hj).1; omega))); clear hown hgrow hne hL5)
        | (go_at_call 21; refine (HRD.out a5 cap5 w5 P5.out).mono ?_; rintro e w6 ⟨p, rfl, h1, h2, h3⟩; have R6 := hid h2; have A6 := hid (A5.out.trans h3); have HP := hid (Nat.le_trans A5.out.size h1); clear h1 h2 h3)
        | (go_at_call 22; refine (HT.out p w6 R6.out).mono ?_; rintro e w7 ⟨a7, cap7, rfl, P7⟩; have A7 := hid (Adds.own A6.out P7.out.2.2.2 HP.out); have A8 := hid (A7.out.alloc (.cells #[.string ⟨n.toArray⟩, .slice a7 cs.length cap7] 24)); obtain ⟨c0, c1⟩ := HB.out _ A8.out)
        | (go_at_call 19; refine (HSM.out a7 cap7 _ A8.out (P7.out.1.adds ((Touch.refl _ w7).alloc _))).mono ?_; rintro e w9 ⟨rfl, hA⟩; have A9 := hid (A8.out.trans hA); have R9 := hid ((P7.out.2.2.1.adds ((Touch.refl _ w7).alloc _)).adds hA); clear hA c0 c1; obtain ⟨c0, c1⟩ := HB.out _ A9.out)
        | (go_at_call 24; refine (left_any R9.out).mono ?_; rintro e w' ⟨rfl, hw⟩; obtain rfl := hw.symm))
      go_wp2_with fail
      clear c0 c1
      go_loopw [52] (fun iv wr => ∃ i : Nat, iv = .int .i64 (i : Int) ∧ i ≤ cs.length ∧ Hid (Adds (w.alloc (.cells #[.string ⟨n.toArray⟩, .slice a cs.length cap] 24)) wr)) (fun iv _ => cs.length - (intOf iv).toNat)
      case atStart => exact ⟨0, rfl, Nat.zero_le _, A9.out⟩
      case round =>
        obtain ⟨i, rfl, hi, HI⟩ := hrel
        clear A1 A2 A3 A4 A5 A6 A7 A8 A9 R6 R9 P4 P5 P7 B4 HP HAL
        by_cases hlt : i < cs.length
        · have hltz : (i : Int) < (cs.length : Int) := by omega
          obtain ⟨c, hc⟩ : ∃ c, cs[i]? = some c := ⟨cs[i], List.getElem?_eq_getElem hlt⟩
          obtain ⟨b, o, ea, d0, d1⟩ := HC.out wr HI.out i c hc
          have HC1 := hid (HCO.out i c hc)
          have HN1 := hid (HNM.out i c hc)
          obtain ⟨s, kd⟩ := c
          simp only at d0 d1 HC1 HN1
          have AX := hid (HI.out.alloc (.cells #[.string ⟨s.toArray⟩, .int .i64 kd] 51))
          have HBk := hid (fun w' => two_new wr (.string ⟨s.toArray⟩) (.int .i64 kd) 51 (w' := w'))
          obtain ⟨c0, c1⟩ := HB.out _ AX.out
          clear hc
          subst ea
          go_wp2_with (first
            | (go_at_call 12; refine (HC1.out _ AX.out).mono ?_; rintro e wy ⟨rfl, hA⟩; have AY := hid (AX.out.trans hA); obtain ⟨e0, e1⟩ := HBk.out wy hA; clear hA c0 c1)
            | (go_at_call 8; refine (HN1.out _).mono ?_; rintro e wz ⟨rfl, hA⟩; have AZ := hid (AY.out.trans hA); clear hA))
          go_roundw
          case rel => exact ⟨i + 1, by go_num, by omega, AZ.out⟩
          case measure => simp [intOf]; omega
        · have hltz : ¬ (i : Int) < (cs.length : Int) := by omega
          go_upto_region 15 with fail
          have HF1 := hid (fun g w' (h : ZAt w' g cs.length) => fits_z n a cap cs g cs.length true (by simp) w' (by omega) h)
          have HF2 := hid (fun g w' (h : ZAt w' g (cs.length + 1)) => fits_z n a cap cs g (cs.length + 1) false (by simp) w' (by omega) h)
          have HM1 := hid (fun w' => make_nulls cs.length (by omega) w')
          have HM2 := hid (fun w' => make_nulls (cs.length + 1) (by omega) w')
          generalize hp0 : w.heap.size = p0 at *
          refine H_begin (S := fun w' => Adds wr w') (by kernel_rfl) ?_
          have hS : Adds wr wr.drew := (Touch.refl _ wr).drew
          refine H_put (i := 0) 70 (v := .agg #[.string ⟨n.toArray⟩, .slice a cs.length cap]) rfl rfl (by kernel_rfl) (by kernel_rfl) (by kernel_rfl) (fun _ _ _ h => h) (Or.inl ⟨by rfl, fun w' hw' => ?_⟩) hS ?_
          · obtain ⟨c0, c1⟩ := HB.out w' (HI.out.trans hw'); go_simp
          simp only [Act.put, List.setIfInBounds_toArray, List.set_cons_zero, List.set_cons_succ]
          refine H_put (i := 1) 71 (v := .pointer (some ⟨p0, 1, none⟩)) rfl rfl (by kernel_rfl) (by kernel_rfl) (by kernel_rfl) (fun _ _ _ h => h) (Or.inl ⟨by rfl, fun w' hw' => ?_⟩) hS ?_
          · go_simp
          simp only [Act.put, List.setIfInBounds_toArray, List.set_cons_zero, List.set_cons_succ]
          refine H_put (i := 2) 72 (v := .slice a cs.length cap) rfl rfl (by kernel_rfl) (by kernel_rfl) (by kernel_rfl) (fun _ _ _ h => h) (Or.inl ⟨by rfl, fun w' hw' => ?_⟩) hS ?_
          · obtain ⟨c0, c1⟩ := HB.out w' (HI.out.trans hw'); go_simp
          simp only [Act.put, List.setIfInBounds_toArray, List.set_cons_zero, List.set_cons_succ]
          refine H_put (i := 3) 73 (v := .int .i64 (cs.length : Int)) rfl rfl (by kernel_rfl) (by kernel_rfl) (by kernel_rfl) (fun _ _ _ h => h) (Or.inl ⟨by rfl, fun w' hw' => ?_⟩) hS ?_
          · go_simp
          simp only [Act.put, List.setIfInBounds_toArray, List.set_cons_zero, List.set_cons_succ]
          obtain ⟨wm, hmk, hZ, hAm⟩ := HM1.out wr.drew
          have Am := hid (Touch.trans hS hAm)
          refine H_value (i := 4) 74 (v := .slice (some ⟨wr.drew.heap.size, 0, none⟩) cs.length cs.length) (w' := wm) (by kernel_rfl) rfl rfl (by rfl) (by go_simp) (fun w' => Adds wm w') (fun w' h => Am.out.trans h) (Touch.refl _ _) ?_
          clear hS hmk hAm
          have hS : Adds wm wm := Touch.refl _ _
          have HZ := hid hZ
          clear hZ
          simp only [Act.put, List.setIfInBounds_toArray, List.set_cons_zero, List.set_cons_succ]
          have Awm := hid Am.out
          refine H_call (i := 5) 75 14 #[.agg #[.string ⟨n.toArray⟩, .slice a cs.length cap], .slice (some ⟨wr.drew.heap.size, 0, none⟩) cs.length cs.length] (R := Tells wm (.bool true)) (by kernel_rfl) rfl rfl (by rfl) (by go_simp) ?_ ?_
          · exact HF1.out _ wm HZ.out
          rintro e wa ⟨rfl, hwa⟩
          have Awa := hid (Touch.trans Awm.out hwa)
          refine ⟨_, fun w' => Adds wa w', rfl, Touch.refl _ _, fun w' h => hwa.trans h, ?_⟩
          clear hS
          have hS : Adds wa wa := Touch.refl _ _
          simp only [Act.put, List.setIfInBounds_toArray, List.set_cons_zero, List.set_cons_succ]
          refine H_put (i := 6) 76 (v := .bool true) rfl rfl (by kernel_rfl) (by kernel_rfl) (by kernel_rfl) (fun _ _ _ h => h) (Or.inl ⟨by rfl, fun w' hw' => ?_⟩) hS ?_
          · go_simp
          simp only [Act.put, List.setIfInBounds_toArray, List.set_cons_zero, List.set_cons_succ]
          refine H_put (i := 7) 77 (v := .agg #[.string ⟨n.toArray⟩, .slice a cs.length cap]) rfl rfl (by kernel_rfl) (by kernel_rfl) (by kernel_rfl) (fun _ _ _ h => h) (Or.inl ⟨by rfl, fun w' hw' => ?_⟩) hS ?_
          · obtain ⟨c0, c1⟩ := HB.out w' ((HI.out.trans Awa.out).trans hw'); go_simp
          simp only [Act.put, List.setIfInBounds_toArray, List.set_cons_zero, List.set_cons_succ]
          refine H_put (i := 8) 78 (v := .pointer (some ⟨p0, 1, none⟩)) rfl rfl (by kernel_rfl) (by kernel_rfl) (by kernel_rfl) (fun _ _ _ h => h) (Or.inl ⟨by rfl, fun w' hw' => ?_⟩) hS ?_
          · go_simp
          simp only [Act.put, List.setIfInBounds_toArray, List.set_cons_zero, List.set_cons_succ]
          refine H_put (i := 9) 79 (v := .slice a cs.length cap) rfl rfl (by kernel_rfl) (by kernel_rfl) (by kernel_rfl) (fun _ _ _ h => h) (Or.inl ⟨by rfl, fun w' hw' => ?_⟩) hS ?_
          · obtain ⟨c0, c1⟩ := HB.out w' ((HI.out.trans Awa.out).trans hw'); go_simp
          simp only [Act.put, List.setIfInBounds_toArray, List.set_cons_zero, List.set_cons_succ]
          refine H_put (i := 10) 80 (v := .int .i64 (cs.length : Int)) rfl rfl (by kernel_rfl) (by kernel_rfl) (by kernel_rfl) (fun _ _ _ h => h) (Or.inl ⟨by rfl, fun w' hw' => ?_⟩) hS ?_
          · go_simp
          simp only [Act.put, List.setIfInBounds_toArray, List.set_cons_zero, List.set_cons_succ]
          refine H_put (i := 11) 81 (v := .int .i64 ((cs.length + 1 : Nat) : Int)) rfl rfl (by kernel_rfl) (by kernel_rfl) (by kernel_rfl) (fun _ _ _ h => h) (Or.inl ⟨by rfl, fun w' hw' => ?_⟩) hS ?_
          · have hwr : IntKind.i64.wrap ((cs.length : Int) + 1) = (cs.length : Int) + 1 := by rw [IntKind.wrap_i64]; omega
            go_simp
          simp only [Act.put, List.setIfInBounds_toArray, List.set_cons_zero, List.set_cons_succ]
          obtain ⟨wn, hmk, hZ, hAn⟩ := HM2.out wa
          push_cast at hmk
          have Awn := hid (Awa.out.trans hAn)
          refine H_value (i := 12) 82 (v := .slice (some ⟨wa.heap.size, 0, none⟩) (cs.length + 1) (cs.length + 1)) (w' := wn) (by kernel_rfl) rfl rfl (by rfl) (by go_simp) (fun w' => Adds wn w') (fun w' h => hAn.trans h) (Touch.refl _ _) ?_
          clear hS hmk hAn
          have hS : Adds wn wn := Touch.refl _ _
          have HZ2 := hid hZ
          clear hZ
          simp only [Act.put, List.setIfInBounds_toArray, List.set_cons_zero, List.set_cons_succ]
          refine H_call (i := 13) 83 14 #[.agg #[.string ⟨n.toArray⟩, .slice a cs.length cap], .slice (some ⟨wa.heap.size, 0, none⟩) (cs.length + 1) (cs.length + 1)] (R := Tells wn (.bool false)) (by kernel_rfl) rfl rfl (by rfl) (by go_simp) ?_ ?_
          · exact HF2.out _ wn HZ2.out
          rintro e wb ⟨rfl, hwb⟩
          have Awb := hid (Touch.trans Awn.out hwb)
          refine ⟨_, fun w' => Adds wb w', rfl, Touch.refl _ _, fun w' h => hwb.trans h, ?_⟩
          clear hS
          have hS : Adds wb wb := Touch.refl _ _
          simp only [Act.put, List.setIfInBounds_toArray, List.set_cons_zero, List.set_cons_succ]
          refine H_put (i := 14) 84 (v := .bool true) rfl rfl (by kernel_rfl) (by kernel_rfl) (by kernel_rfl) (fun _ _ _ h => h) (Or.inl ⟨by rfl, fun w' hw' => ?_⟩) hS ?_
          · go_simp
          simp only [Act.put, List.setIfInBounds_toArray, List.set_cons_zero, List.set_cons_succ]
          refine H_put (i := 15) 85 (v := .bool true) rfl rfl (by kernel_rfl) (by kernel_rfl) (by kernel_rfl) (fun _ _ _ h => h) (Or.inl ⟨by rfl, fun w' hw' => ?_⟩) hS ?_
          · go_simp
          simp only [Act.put, List.setIfInBounds_toArray, List.set_cons_zero, List.set_cons_succ]
          refine H_put (i := 16) 4 (v := .bool true) rfl rfl (by kernel_rfl) (by kernel_rfl) (by kernel_rfl) (fun _ _ _ h => h) (Or.inl ⟨by rfl, fun w' hw' => ?_⟩) hS ?_
          · go_simp
          simp only [Act.put, List.setIfInBounds_toArray, List.set_cons_zero, List.set_cons_succ]
          refine wpAnyH_done (by kernel_rfl) ?_ _
          clear hS
          go_wp2_with fail
          go_ret
          exact ⟨rfl, (A0.out.trans HI.out).trans Awb.out⟩
    · have hrz : ((r : Int) != 0) = true := by rw [bne_iff_ne]; omega
      clear hr hr0 g1 g2 g3 h20
      go_enter Try.func5, Try.ntmps5
      go_wp2_with (first
        | (go_at_call 16; refine (works_any _).mono ?_; rintro e w1 ⟨rfl, hA⟩; have A1 := hid hA; obtain ⟨c0, c1⟩ := HB.out w1 hA; clear hA)
        | (go_at_call 7; refine (HG.out w1 A1.out).mono ?_; rintro e w2 ⟨rfl, hA⟩; have A2 := hid (A1.out.trans hA); clear hA c0 c1; obtain ⟨c0, c1⟩ := HB.out w2 A2.out)
        | (go_at_call 10; refine (HR.out w2 A2.out).mono ?_; rintro e w3 ⟨rfl, hA⟩; have A3 := hid (A2.out.trans hA); clear hA))
      go_ret
      exact ⟨rfl, A0.out.trans A3.out⟩
end Go.Proofs.Ytlgchdpajfmpdaa
