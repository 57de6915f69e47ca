/- Bytes that are taken as a table are what is put of it: the walk of SchemaOne. -/
import Derived.Test.YtlgchdpajfmpdaaTakeT
namespace Go.Proofs.Ytlgchdpajfmpdaa
open Go.RowKit

theorem right_z (n : List UInt8) (a : Option Addr) (cap : Nat) (cs : List M.Col) (z : Nat) (hz : M.right n cs = z) (w : World) (hA : ColAt w a cs) (hl : cs.length ≤ 1000) : Calls Try.prog 10 #[.agg #[.string ⟨n.toArray⟩, .slice a cs.length cap]] w (Tells w (.int .i64 (z : Int))) := by
  subst hz
  exact right_any n a cap cs w hA hl
theorem same_z (n m : List UInt8) (a b : Option Addr) (ca cb : Nat) (cs ds : List M.Col) (z : Bool) (hz : decide (n = m ∧ cs = ds) = z) (w : World) (hA : ColAt w a cs) (hB : ColAt w b ds) (hl : cs.length ≤ 1000) : Calls Try.prog 19 #[.agg #[.string ⟨n.toArray⟩, .slice a cs.length ca], .agg #[.string ⟨m.toArray⟩, .slice b ds.length cb]] w (Tells w (.bool z)) := by
  subst hz
  exact same_any n m a b ca cb cs ds w hA hB hl
theorem put_z (n : List UInt8) (a : Option Addr) (cap : Nat) (cs : List M.Col) (l : List UInt8) (hl : M.putT n cs = l) (w : World) (hA : ColAt w a cs) (hn : n.length ≤ 1000) (hc : cs.length ≤ 1000) (hcl : ∀ c ∈ cs, c.1.length ≤ 1000) : Calls Try.prog 17 #[.slice none 0 0, .agg #[.string ⟨n.toArray⟩, .slice a cs.length cap]] w (POwn w l) := by
  subst hl
  exact put_any none [] 0 n a cap cs w (by simp) (At.nil _ _) (fun _ => rfl) hA hn hc hcl
set_option maxRecDepth 100000 in
set_option maxHeartbeats 4000000 in
theorem oneLaw_any (a : Option Addr) (bs : List UInt8) (cap : Nat) (w : World) (hA : At w a bs) (hcap : a = none → cap = 0) (hlc : bs.length ≤ cap) (hm : cap ≤ maxLen) : Calls Try.prog 6 #[.slice a bs.length cap] w (Tells w (.bool true)) := by
  have HA := hid (And.intro hA hcap)
  have hbl2 : (bs.length : Int) ≤ 9223372036854775807 := by unfold maxLen at hm; omega
  by_cases h20 : 2000 < bs.length
  · have h20z : (2000 : Int) < (bs.length : Int) := by omega
    clear hA hcap hlc hm h20
    go_enter Try.func6, Try.ntmps6
    go_wp2_with (first | (go_at_call 16; refine (works_any _).mono ?_; rintro e w1 ⟨rfl, hA⟩; have A1 := hid hA; clear hA))
    go_ret
    exact ⟨rfl, A1.out⟩
  have h20z : ¬ (2000 : Int) < (bs.length : Int) := by omega
  have HRD := hid (fun w1 (h : Adds w w1) => read_any a bs cap w1 (by omega) hcap (hA.adds h))
  clear hA hcap
  obtain ⟨z, hz⟩ : ∃ z, M.tErr ⟨0, bs⟩ = z := ⟨_, rfl⟩
  obtain ⟨tn, htn⟩ : ∃ l, M.tabN ⟨0, bs⟩ = l := ⟨_, rfl⟩
  obtain ⟨tc, htc⟩ : ∃ l, M.tabC ⟨0, bs⟩ = l := ⟨_, rfl⟩
  obtain ⟨st, hst⟩ : ∃ l, M.tSt ⟨0, bs⟩ = l := ⟨_, rfl⟩
  have HT := hid (fun p w2 (h : RD w2 (.pointer (some ⟨p, 0, none⟩)) ⟨0, bs⟩) => show Calls Try.prog 22 #[.pointer (some ⟨p, 0, none⟩)] w2 (fun e w' => ∃ a' cap', e = .returned (.tuple #[.agg #[.string ⟨tn.toArray⟩, .slice a' tc.length cap'], .int .i64 (z : Int)]) ∧ Hid (ColAt w' a' tc ∧ (a' = none → cap' = 0) ∧ RD w' (.pointer (some ⟨p, 0, none⟩)) st ∧ Touch (Own1 (.pointer (some ⟨p, 0, none⟩))) w2 w')) by rw [← hz, ← htn, ← htc, ← hst]; exact takeT_any p ⟨0, bs⟩ w2 h)
  by_cases h0 : z = 0
  · have e1 : M.tabN ⟨0, bs⟩ = M.tName ⟨0, bs⟩ := by unfold M.tabN; rw [hz, if_pos h0]
    have e2 : M.tabC ⟨0, bs⟩ = M.tCols ⟨0, bs⟩ := by unfold M.tabC; rw [hz, if_pos h0]
    have hse : st.e = 0 := by
      rw [← hst]
      by_cases c : (M.tSt ⟨0, bs⟩).e = 0
      · exact c
      · unfold M.tErr at hz; rw [if_pos c] at hz; omega
    have hri : M.right tn tc = 0 := by
      rw [← hst] at hse
      unfold M.tErr at hz
      rw [if_neg (by simpa using hse), ← e1, ← e2, htn, htc] at hz
      omega
    obtain ⟨_, hput⟩ := M.taken_put (s := ⟨0, bs⟩) (by rw [hst]; exact hse)
    rw [← e1, ← e2, htn, htc, hst] at hput
    obtain ⟨r1, r2, r3, r4, r5⟩ := M.right_ok hri
    have hnl : tn.length ≤ 20 := name_len r1
    have hcl : ∀ c ∈ tc, c.1.length ≤ 1000 := fun c hc => Nat.le_trans (name_len (bad_name r4 c hc).1) (by omega)
    obtain ⟨PT, hPT⟩ : ∃ l, M.putT tn tc = l := ⟨_, rfl⟩
    have hbs : bs = PT ++ st.l := by rw [← hPT]; exact hput
    have hpos : 0 < bs.length := by
      have : tn.length ≠ 0 := by
        unfold M.name at r1
        simp only [Bool.and_eq_true, decide_eq_true_eq] at r1
        exact r1.1.1
      rw [hbs, ← hPT, M.putT]
      simp only [List.length_append]
      omega
    obtain ⟨b, o, ea⟩ := HA.out.1.ad hpos
    subst ea
    have hlen : bs.length = PT.length + st.l.length := by rw [hbs, List.length_append]
    have hsub : (bs.length : Int) - (st.l.length : Int) = (PT.length : Int) := by omega
    have HPA := hid (fun w' (h : Adds w w') => show At w' (some ⟨b, o, none⟩) PT by
      have := (HA.out.1.adds h).pre PT.length
      rw [hbs, List.take_left' rfl] at this
      exact this)
    have HRI := hid (fun a' cap' w' (h : ColAt w' a' tc) => right_z tn a' cap' tc 0 hri w' h (by omega))
    have HPU := hid (fun a' cap' w' (h : ColAt w' a' tc) => put_z tn a' cap' tc PT hPT w' h (by omega) (by omega) hcl)
    have hle : (PT.length : Int) ≤ (cap : Int) := by omega
    have hge : (0 : Int) ≤ (PT.length : Int) := by omega
    have hsl : (st.l.length : Int) ≤ 2000 := by omega
    subst h0
    clear e1 e2 hse hri hput r1 r2 r3 r4 r5 hnl hcl hPT hbs hpos hlen hz htn htc hst
    go_enter Try.func6, Try.ntmps6
    go_upto_region 10 with (first
      | (go_at_call 16; refine (works_any _).mono ?_; rintro e w1 ⟨rfl, hA⟩; have A1 := hid hA; clear hA)
      | (go_at_call 21; refine (HRD.out w1 A1.out).mono ?_; rintro e w2 ⟨p, rfl, h1, h2, h3⟩; have R2 := hid h2; have A2 := hid (A1.out.trans h3); have HP := hid (Nat.le_trans A1.out.size h1); clear h1 h2 h3)
      | (go_at_call 22; refine (HT.out p w2 R2.out).mono ?_; rintro e w3 ⟨a3, cap3, rfl, P3⟩; have A3 := hid (Adds.own A2.out P3.out.2.2.2 HP.out))
      | (go_at_call 24; refine (left_any (P3.out.2.2.1.adds ((Touch.refl _ w3).alloc _))).mono ?_; rintro e w' ⟨rfl, hw⟩; obtain rfl := hw.symm))
    have HB := hid (fun w' => two_new w3 (.string ⟨tn.toArray⟩) (.slice a3 tc.length cap3) 24 (w' := w'))
    have HC := hid (P3.out.1.adds ((Touch.refl _ w3).alloc (.cells #[.string ⟨tn.toArray⟩, .slice a3 tc.length cap3] 24)))
    have A4 := hid (A3.out.alloc (.cells #[.string ⟨tn.toArray⟩, .slice a3 tc.length cap3] 24))
    generalize w3.alloc (.cells #[.string ⟨tn.toArray⟩, .slice a3 tc.length cap3] 24) = w4 at *
    generalize w3.heap.size = p4 at *
    refine H_begin (S := fun w' => Adds w4 w') (by kernel_rfl) ?_
    have hS : Adds w4 w4.drew := (Touch.refl _ w4).drew
    refine H_put (i := 0) 29 (v := .agg #[.string ⟨tn.toArray⟩, .slice a3 tc.length cap3]) rfl rfl (by kernel_rfl) (by kernel_rfl) (by kernel_rfl) (fun _ _ _ h => h) (Or.inl ⟨by rfl, fun w' hw' => ?_⟩) hS ?_
    · obtain ⟨c0, c1⟩ := HB.out w' hw'; go_simp
    simp only [Act.put, List.setIfInBounds_toArray, List.set_cons_zero, List.set_cons_succ]
    refine H_call (i := 1) 30 10 #[.agg #[.string ⟨tn.toArray⟩, .slice a3 tc.length cap3]] (R := Tells w4.drew (.int .i64 0)) (by kernel_rfl) rfl rfl (by rfl) (by go_simp) ?_ ?_
    · exact HRI.out a3 cap3 _ (HC.out.adds hS)
    rintro e wa ⟨rfl, hwa⟩
    have Awa := hid (Touch.trans hS hwa)
    refine ⟨_, fun w' => Adds wa w', rfl, Touch.refl _ _, fun w' h => Awa.out.trans h, ?_⟩
    clear hS
    have hS : Adds wa wa := Touch.refl _ _
    simp only [Act.put, List.setIfInBounds_toArray, List.set_cons_zero, List.set_cons_succ]
    refine H_put (i := 2) 31 (v := .bool true) rfl rfl (by kernel_rfl) (by kernel_rfl) (by kernel_rfl) (fun _ _ _ h => h) (Or.inl ⟨by rfl, fun w' hw' => ?_⟩) hS ?_
    · go_simp
    simp only [Act.put, List.setIfInBounds_toArray, List.set_cons_zero, List.set_cons_succ]
    refine H_put (i := 3) 32 (v := .bool true) rfl rfl (by kernel_rfl) (by kernel_rfl) (by kernel_rfl) (fun _ _ _ h => h) (Or.inl ⟨by rfl, fun w' hw' => ?_⟩) hS ?_
    · go_simp
    simp only [Act.put, List.setIfInBounds_toArray, List.set_cons_zero, List.set_cons_succ]
    refine H_put (i := 4) 33 (v := .int .i64 (PT.length : Int)) rfl rfl (by kernel_rfl) (by kernel_rfl) (by kernel_rfl) (fun _ _ _ h => h) (Or.inl ⟨by rfl, fun w' hw' => ?_⟩) hS ?_
    · go_simp
    simp only [Act.put, List.setIfInBounds_toArray, List.set_cons_zero, List.set_cons_succ]
    refine H_put (i := 5) 34 (v := .bool true) rfl rfl (by kernel_rfl) (by kernel_rfl) (by kernel_rfl) (fun _ _ _ h => h) (Or.inl ⟨by rfl, fun w' hw' => ?_⟩) hS ?_
    · go_simp
    simp only [Act.put, List.setIfInBounds_toArray, List.set_cons_zero, List.set_cons_succ]
    refine H_put (i := 6) 35 (v := .bool true) rfl rfl (by kernel_rfl) (by kernel_rfl) (by kernel_rfl) (fun _ _ _ h => h) (Or.inl ⟨by rfl, fun w' hw' => ?_⟩) hS ?_
    · go_simp
    simp only [Act.put, List.setIfInBounds_toArray, List.set_cons_zero, List.set_cons_succ]
    refine H_put (i := 7) 36 (v := .bool true) rfl rfl (by kernel_rfl) (by kernel_rfl) (by kernel_rfl) (fun _ _ _ h => h) (Or.inl ⟨by rfl, fun w' hw' => ?_⟩) hS ?_
    · go_simp
    simp only [Act.put, List.setIfInBounds_toArray, List.set_cons_zero, List.set_cons_succ]
    refine H_put (i := 8) 37 (v := .agg #[.string ⟨tn.toArray⟩, .slice a3 tc.length cap3]) rfl rfl (by kernel_rfl) (by kernel_rfl) (by kernel_rfl) (fun _ _ _ h => h) (Or.inl ⟨by rfl, fun w' hw' => ?_⟩) hS ?_
    · obtain ⟨c0, c1⟩ := HB.out w' (Awa.out.trans hw'); go_simp
    simp only [Act.put, List.setIfInBounds_toArray, List.set_cons_zero, List.set_cons_succ]
    refine H_put (i := 11) 40 (v := .slice (some ⟨b, o, none⟩) bs.length cap) rfl rfl (by kernel_rfl) (by kernel_rfl) (by kernel_rfl) (fun _ _ _ h => h) (Or.inl ⟨by rfl, fun w' hw' => ?_⟩) hS ?_
    · go_simp
    simp only [Act.put, List.setIfInBounds_toArray, List.set_cons_zero, List.set_cons_succ]
    refine H_put (i := 12) 41 (v := .int .i64 (PT.length : Int)) rfl rfl (by kernel_rfl) (by kernel_rfl) (by kernel_rfl) (fun _ _ _ h => h) (Or.inl ⟨by rfl, fun w' hw' => ?_⟩) hS ?_
    · go_simp
    simp only [Act.put, List.setIfInBounds_toArray, List.set_cons_zero, List.set_cons_succ]
    refine H_put (i := 13) 42 (v := .slice (some ⟨b, o, none⟩) PT.length cap) rfl rfl (by kernel_rfl) (by kernel_rfl) (by kernel_rfl) (fun _ _ _ h => h) (Or.inl ⟨by rfl, fun w' hw' => ?_⟩) hS ?_
    · go_simp
    simp only [Act.put, List.setIfInBounds_toArray, List.set_cons_zero, List.set_cons_succ]
    refine H_put (i := 14) 43 (v := .string ⟨PT.toArray⟩) rfl rfl (by kernel_rfl) (by kernel_rfl) (by kernel_rfl) (fun _ _ _ h => h) (Or.inl ⟨by rfl, fun w' hw' => ?_⟩) hS ?_
    · have hcv := conv_at w' (some ⟨b, o, none⟩) PT cap (HPA.out w' ((A4.out.trans Awa.out).trans hw')); go_simp
    simp only [Act.put, List.setIfInBounds_toArray, List.set_cons_zero, List.set_cons_succ]
    refine H_call (i := 9) 38 17 #[.slice none 0 0, .agg #[.string ⟨tn.toArray⟩, .slice a3 tc.length cap3]] (R := POwn wa PT) (by kernel_rfl) rfl rfl (by rfl) (by go_simp) ?_ ?_
    · exact HPU.out a3 cap3 _ (HC.out.adds Awa.out)
    rintro e wb ⟨v5, rfl, h5, hwb⟩; obtain ⟨a5, cap5, rfl, hL5⟩ := Own.lies h5; have HL5 := hid hL5; clear h5 hL5
    have Awb := hid (Touch.trans Awa.out hwb)
    refine ⟨_, fun w' => Adds wb w', rfl, Touch.refl _ _, fun w' h => hwb.trans h, ?_⟩
    clear hS
    have hS : Adds wb wb := Touch.refl _ _
    simp only [Act.put, List.setIfInBounds_toArray, List.set_cons_zero, List.set_cons_succ]
    refine H_put (i := 10) 39 (v := .string ⟨PT.toArray⟩) rfl rfl (by kernel_rfl) (by kernel_rfl) (by kernel_rfl) (fun _ _ _ h => h) (Or.inl ⟨by rfl, fun w' hw' => ?_⟩) hS ?_
    · have hcv := conv_at w' a5 PT cap5 (HL5.out.at_.adds hw'); go_simp
    simp only [Act.put, List.setIfInBounds_toArray, List.set_cons_zero, List.set_cons_succ]
    refine H_put (i := 15) 44 (v := .bool true) rfl rfl (by kernel_rfl) (by kernel_rfl) (by kernel_rfl) (fun _ _ _ h => h) (Or.inl ⟨by rfl, fun w' hw' => ?_⟩) hS ?_
    · go_simp
    simp only [Act.put, List.setIfInBounds_toArray, List.set_cons_zero, List.set_cons_succ]
    refine H_put (i := 16) 45 (v := .bool true) rfl rfl (by kernel_rfl) (by kernel_rfl) (by kernel_rfl) (fun _ _ _ h => h) (Or.inl ⟨by rfl, fun w' hw' => ?_⟩) hS ?_
    · go_simp
    simp only [Act.put, List.setIfInBounds_toArray, List.set_cons_zero, List.set_cons_succ]
    refine H_put (i := 17) 2 (v := .bool true) rfl rfl (by kernel_rfl) (by kernel_rfl) (by kernel_rfl) (fun _ _ _ h => h) (Or.inl ⟨by rfl, fun w' hw' => ?_⟩) hS ?_
    · go_simp
    simp only [Act.put, List.setIfInBounds_toArray, List.set_cons_zero, List.set_cons_succ]
    refine wpAnyH_done (by kernel_rfl) ?_ _
    clear hS
    go_wp2_with fail
    go_ret
    exact ⟨rfl, A4.out.trans Awb.out⟩
  · have e1 : tn = [] := by rw [← htn]; unfold M.tabN; rw [hz, if_neg h0]
    have e2 : tc = [] := by rw [← htc]; unfold M.tabC; rw [hz, if_neg h0]
    subst e1 e2
    have hzz : ((z : Int) == 0) = false := by rw [beq_eq_false_iff_ne]; omega
    have HS := hid (fun a' cap' w' => show Calls Try.prog 19 #[.agg #[.string ⟨#[]⟩, .slice a' 0 cap'], .agg #[.string ⟨#[]⟩, .slice none 0 0]] w' (Tells w' (.bool true)) from same_z [] [] a' none cap' 0 [] [] true (by simp) w' (ColAt.nil _ _) (ColAt.nil _ _) (by simp))
    clear h0 hz htn htc hst
    go_enter Try.func6, Try.ntmps6
    go_wp2_with (first
      | (go_at_call 16; refine (works_any _).mono ?_; rintro e w1 ⟨rfl, hA⟩; have A1 := hid hA; clear hA)
      | (go_at_call 21; refine (HRD.out w1 A1.out).mono ?_; rintro e w2 ⟨p, rfl, h1, h2, h3⟩; have R2 := hid h2; have A2 := hid (A1.out.trans h3); have HP := hid (Nat.le_trans A1.out.size h1); clear h1 h2 h3)
      | (go_at_call 22; refine (HT.out p w2 R2.out).mono ?_; rintro e w3 ⟨a3, cap3, rfl, P3⟩; have A3 := hid (Adds.own A2.out P3.out.2.2.2 HP.out))
      | (go_at_call 19; refine (HS.out a3 cap3 _).mono ?_; rintro e w5 ⟨rfl, hA⟩; have A5 := hid ((A3.out.alloc _).trans hA); clear hA))
    go_ret
    exact ⟨rfl, A5.out⟩
end Go.Proofs.Ytlgchdpajfmpdaa
