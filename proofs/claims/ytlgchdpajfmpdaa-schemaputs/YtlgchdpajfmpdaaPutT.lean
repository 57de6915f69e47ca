/- A table as bytes. -/
import Derived.Test.YtlgchdpajfmpdaaWorks
import Derived.Test.YtlgchdpajfmpdaaTMath
namespace Go.Proofs.Ytlgchdpajfmpdaa
open Go.RowKit

theorem own_app {w : World} {base : Nat} {v : Value} {k ls l : List UInt8} (hl : l = k ++ ls) (h : w.ownsRow base 5 1 v (k.length + ls.length) (S k ++ S ls)) : w.ownsRow base 5 1 v l.length (S l) := by
  subst hl
  rw [List.length_append, S, List.map_append]
  exact h
theorem putText_z (ts l : List UInt8) (hl : M.enc ts.length ++ ts = l) (ht : ts.length ≤ 1000000) (w : World) : Calls Try.prog 34 #[.slice none 0 0, .string ⟨ts.toArray⟩] w (POwn w l) := by
  subst hl
  exact putText_any none [] 0 ts w (by simp) ht (fun _ => rfl) (At.nil _ _)
theorem putText_at (a : Option Addr) (bs : List UInt8) (cap : Nat) (ts l : List UInt8) (hl : bs ++ (M.enc ts.length ++ ts) = l) (w : World) (h1 : bs.length ≤ 1000000) (h2 : ts.length ≤ 1000000) (hcap : a = none → cap = 0) (hA : At w a bs) : Calls Try.prog 34 #[.slice a bs.length cap, .string ⟨ts.toArray⟩] w (POwn w l) := by
  subst hl
  exact putText_any a bs cap ts w h1 h2 hcap hA
theorem putUint_at (a : Option Addr) (bs : List UInt8) (cap n : Nat) (l : List UInt8) (hl : bs ++ M.enc n = l) (w : World) (h1 : bs.length ≤ 1000000) (h2 : n < 18446744073709551616) (hcap : a = none → cap = 0) (hA : At w a bs) : Calls Try.prog 33 #[.slice a bs.length cap, .int .u64 (n : Int)] w (POwn w l) := by
  subst hl
  exact putUint_any a bs cap n w h1 h2 hcap hA
set_option maxRecDepth 100000 in
set_option maxHeartbeats 2000000 in
theorem put_any (a0 : Option Addr) (bs : List UInt8) (cap0 : Nat) (n : List UInt8) (a : Option Addr) (cap : Nat) (cs : List M.Col) (w : World) (hbl : bs.length ≤ 900000) (h0 : At w a0 bs) (hc0 : a0 = none → cap0 = 0) (hA : ColAt w a cs) (hn : n.length ≤ 1000) (hl : cs.length ≤ 1000) (hcl : ∀ c ∈ cs, c.1.length ≤ 1000) :
    Calls Try.prog 17 #[.slice a0 bs.length cap0, .agg #[.string ⟨n.toArray⟩, .slice a cs.length cap]] w (POwn w (bs ++ M.putT n cs)) := by
  obtain ⟨L1, hL1⟩ : ∃ l, bs ++ (M.enc n.length ++ n) = l := ⟨_, rfl⟩
  obtain ⟨L2, hL2⟩ : ∃ l, L1 ++ M.enc cs.length = l := ⟨_, rfl⟩
  have hl1 : L1.length ≤ 910000 := by
    have := M.len_enc10 (n := n.length) (by omega)
    rw [← hL1, List.length_append, List.length_append]; omega
  have hl2 : L2.length ≤ 920000 := by
    have := M.len_enc10 (n := cs.length) (by omega)
    rw [← hL2, List.length_append]; omega
  have HE := hid (show bs ++ M.putT n cs = L2 ++ M.colsB cs by rw [← hL2, ← hL1, M.putT]; simp only [List.append_assoc])
  have A0 := hid (show Adds w (w.alloc (.cells #[.string ⟨n.toArray⟩, .slice a cs.length cap] 24)) from (Touch.refl _ w).alloc _)
  have HB := hid (fun w' => two_new w (.string ⟨n.toArray⟩) (.slice a cs.length cap) 24 (w' := w'))
  have HT := hid (fun w' (h : Adds w w') => putText_at a0 bs cap0 n L1 hL1 w' (by omega) (by omega) hc0 (h0.adds h))
  have HU := hid (fun a1 c1 w' (h : Lies w' w'.heap.size a1 L1 c1) => putUint_at a1 L1 c1 cs.length L2 hL2 w' (by omega) (by omega) h.non h.at_)
  have HA := hid hA
  have HC := hid hcl
  have HL2 := hid hl2
  clear hL1 hL2 hl1 hl2 h0 hc0 hA hcl hbl
  go_enter Try.func17, Try.ntmps17
  go_upto_region 1 with fail
  generalize hw0 : w.alloc (.cells #[.string ⟨n.toArray⟩, .slice a cs.length cap] 24) = w0 at *
  generalize hp0 : w.heap.size = p0 at *
  refine H_begin (S := fun w' => Adds w0 w') (by kernel_rfl) ?_
  have hS : Adds w0 w0.drew := (Touch.refl _ w0).drew
  refine H_put (i := 0) 8 (v := .slice a0 bs.length cap0) rfl rfl (by kernel_rfl) (by kernel_rfl) (by kernel_rfl) (fun _ _ _ h => h) (Or.inl ⟨by rfl, fun w' hw' => ?_⟩) hS ?_
  · go_simp
  simp only [Act.put, List.setIfInBounds_toArray, List.set_cons_zero, List.set_cons_succ]
  refine H_put (i := 1) 9 (v := .pointer (some ⟨p0, 0, none⟩)) rfl rfl (by kernel_rfl) (by kernel_rfl) (by kernel_rfl) (fun _ _ _ h => h) (Or.inl ⟨by rfl, fun w' hw' => ?_⟩) hS ?_
  · go_simp
  simp only [Act.put, List.setIfInBounds_toArray, List.set_cons_zero, List.set_cons_succ]
  refine H_put (i := 2) 10 (v := .string ⟨n.toArray⟩) rfl rfl (by kernel_rfl) (by kernel_rfl) (by kernel_rfl) (fun _ _ _ h => h) (Or.inl ⟨by rfl, fun w' hw' => ?_⟩) hS ?_
  · have c0 := (HB.out w' hw').1; go_simp
  simp only [Act.put, List.setIfInBounds_toArray, List.set_cons_zero, List.set_cons_succ]
  refine H_put (i := 4) 12 (v := .pointer (some ⟨p0, 1, none⟩)) rfl rfl (by kernel_rfl) (by kernel_rfl) (by kernel_rfl) (fun _ _ _ h => h) (Or.inl ⟨by rfl, fun w' hw' => ?_⟩) hS ?_
  · go_simp
  simp only [Act.put, List.setIfInBounds_toArray, List.set_cons_zero, List.set_cons_succ]
  refine H_put (i := 5) 13 (v := .slice a cs.length cap) rfl rfl (by kernel_rfl) (by kernel_rfl) (by kernel_rfl) (fun _ _ _ h => h) (Or.inl ⟨by rfl, fun w' hw' => ?_⟩) hS ?_
  · have c1 := (HB.out w' hw').2; go_simp
  simp only [Act.put, List.setIfInBounds_toArray, List.set_cons_zero, List.set_cons_succ]
  refine H_put (i := 6) 14 (v := .int .i64 (cs.length : Int)) rfl rfl (by kernel_rfl) (by kernel_rfl) (by kernel_rfl) (fun _ _ _ h => h) (Or.inl ⟨by rfl, fun w' hw' => ?_⟩) hS ?_
  · go_simp
  simp only [Act.put, List.setIfInBounds_toArray, List.set_cons_zero, List.set_cons_succ]
  refine H_put (i := 7) 15 (v := .int .u64 (cs.length : Int)) rfl rfl (by kernel_rfl) (by kernel_rfl) (by kernel_rfl) (fun _ _ _ h => h) (Or.inl ⟨by rfl, fun w' hw' => ?_⟩) hS ?_
  · have hwr : IntKind.u64.wrap (cs.length : Int) = (cs.length : Int) := by rw [IntKind.wrap_u64]; omega
    go_simp
  simp only [Act.put, List.setIfInBounds_toArray, List.set_cons_zero, List.set_cons_succ]
  refine H_call (i := 3) 11 34 #[.slice a0 bs.length cap0, .string ⟨n.toArray⟩] (R := POwn w0.drew L1) (by kernel_rfl) rfl rfl (by rfl) (by go_simp) ?_ ?_
  · exact HT.out _ (A0.out.trans hS)
  rintro e wa ⟨v1, rfl, h1, hwa⟩; obtain ⟨a1, c1, rfl, hL1⟩ := Own.lies h1; have HL1 := hid hL1; clear h1 hL1
  have Awa := hid (Touch.trans hS hwa)
  refine ⟨_, fun w' => Adds wa w', rfl, Touch.refl _ _, fun w' h => Awa.out.trans h, ?_⟩
  clear hS
  have hS : Adds wa wa := Touch.refl _ _
  simp only [Act.put, List.setIfInBounds_toArray, List.set_cons_zero, List.set_cons_succ]
  refine H_call (i := 8) 16 33 #[.slice a1 L1.length c1, .int .u64 (cs.length : Int)] (R := POwn wa L2) (by kernel_rfl) rfl rfl (by rfl) (by go_simp) ?_ ?_
  · exact HU.out a1 c1 wa HL1.out
  rintro e wb ⟨v2, rfl, h2, hwb⟩; have HO2 := hid h2; clear h2
  have Awb := hid (Touch.trans Awa.out hwb)
  refine ⟨_, fun w' => Adds wb w', rfl, Touch.refl _ _, fun w' h => hwb.trans h, ?_⟩
  clear hS
  have hS : Adds wb wb := Touch.refl _ _
  simp only [Act.put, List.setIfInBounds_toArray, List.set_cons_zero, List.set_cons_succ]
  refine H_put (i := 9) 5 (v := v2) rfl rfl (by kernel_rfl) (by kernel_rfl) (by kernel_rfl) (fun _ _ _ h => h) (Or.inl ⟨by rfl, fun w' hw' => ?_⟩) hS ?_
  · go_simp
  simp only [Act.put, List.setIfInBounds_toArray, List.set_cons_zero, List.set_cons_succ]
  refine wpAnyH_done (by kernel_rfl) ?_ _
  have AW := hid (A0.out.trans Awb.out)
  have HO := hid (show wb.ownsRow p0 5 1 v2 L2.length (S L2) by rw [← hp0]; exact own_base HO2.out ((A0.out.trans Awa.out).size))
  obtain ⟨_, k1⟩ := HB.out _ Awb.out
  clear hS
  go_wp2_with fail
  go_loopw [5, 20] (fun vv iv wr => ∃ (k : Nat) (pk : List UInt8), iv = .int .i64 (k : Int) ∧ k ≤ cs.length ∧ Hid (pk = L2 ++ M.colsB (cs.take k) ∧ wr.ownsRow p0 5 1 vv pk.length (S pk) ∧ Adds w wr)) (fun _ iv _ => cs.length - (intOf iv).toNat)
  case atStart => exact ⟨0, L2, rfl, Nat.zero_le _, by simp [M.colsB], HO.out, AW.out⟩
  case round =>
    obtain ⟨k, pk, rfl, hk, HI⟩ := hrel
    by_cases hlt : k < cs.length
    · have hltz : (k : Int) < (cs.length : Int) := by omega
      obtain ⟨c, hc⟩ : ∃ c, cs[k]? = some c := ⟨cs[k], List.getElem?_eq_getElem hlt⟩
      have HN := hid (M.colsB_take hc)
      have hcn := HC.out c (List.mem_of_getElem? hc)
      obtain ⟨b, o, ea, c0, c1⟩ := (HA.out.adds HI.out.2.2) k c hc
      subst ea
      obtain ⟨s, kd⟩ := c
      simp only at c0 c1 hcn
      obtain ⟨pu, hpu⟩ : ∃ l, M.enc s.length ++ s = l := ⟨_, rfl⟩
      have HPU := hid (putText_z s pu hpu (by omega))
      have HPL := hid (show pk.length ≤ 2000000 ∧ pu.length ≤ 2000 by
        have e3 := M.len_colsB (r := cs.take k) (fun v hv => HC.out v (List.mem_of_mem_take hv))
        rw [List.length_take] at e3
        have e2 := HL2.out
        have e1 := M.len_enc10 (n := s.length) (by omega)
        rw [HI.out.1, ← hpu, List.length_append, List.length_append]
        omega)
      have HPK := hid (show M.colB (s, kd) = pu ++ [M.kindB kd] by rw [← hpu]; rfl)
      have HK := hid (M.kindB_nat kd)
      have HBk := hid (fun w' => two_new wr (.string ⟨s.toArray⟩) (.int .i64 kd) 51 (w' := w'))
      have HX := hid hp0
      clear hc hpu k1 hw0 hp0
      go_wp2_with (first
        | (go_at_call 34; refine (HPU.out _).mono ?_; rintro e w2 ⟨v2x, rfl, h1, h2⟩; obtain ⟨a2, cap2, rfl, hL2⟩ := Own.lies h1; have P2 := hid hL2; have A2 := hid (show Adds wr w2 from Touch.trans ((Touch.refl _ wr).alloc _) h2); obtain ⟨d0, d1⟩ := HBk.out w2 h2; have B2 := hid h2; clear h1 h2 hL2)
        | (at_builtin; have P3 := P3; refine append_bytes rfl _ _ rfl p0 _ (pk ++ pu).length (S (pk ++ pu)) rfl (own_keep P3.out.1 ((Touch.refl _ w3).alloc _)) (some ⟨w3.heap.size, 0, none⟩) [M.kindB kd] 1 rfl (fun e => (by cases e)) (by rw [← HK.out]; exact At.one w3 (M.kindB kd)) (by have := HPL.out; rw [List.length_append]; simp; omega) (by rw [← HX.out]; exact (P3.out.2.alloc _).size) ?_; intro v4 w4 hown hgrow hne; have P4 := hid (show w4.ownsRow p0 5 1 v4 ((pk ++ pu) ++ [M.kindB kd]).length (S ((pk ++ pu) ++ [M.kindB kd])) ∧ Adds w w4 from ⟨own_app rfl hown, Touch.grown (P3.out.2.alloc _) hgrow (fun j hj hlt => by have := (P3.out.1.lt j hj).1; have := HX.out; omega)⟩); clear hown hgrow hne)
        | (at_builtin; refine append_bytes rfl _ _ rfl p0 _ pk.length (S pk) rfl (own_keep HI.out.2.1 A2.out) a2 pu cap2 rfl P2.out.non P2.out.at_ (by have := HPL.out; omega) (by rw [← HX.out]; exact (HI.out.2.2.trans A2.out).size) ?_; intro v3 w3 hown hgrow hne; have P3 := hid (show w3.ownsRow p0 5 1 v3 (pk ++ pu).length (S (pk ++ pu)) ∧ Adds w w3 from ⟨own_app rfl hown, Touch.grown (HI.out.2.2.trans A2.out) hgrow (fun j hj hlt => by have := (HI.out.2.1.lt j hj).1; have := HX.out; omega)⟩); have d2 : w3.cell? ⟨wr.heap.size, 1, none⟩ = some (.int .i64 kd) := by rw [World.cell?_of_block (w := w2) (hgrow.block _ (World.block_lt_of_cell? w2 _ d1) (fun e => by have := (HI.out.2.1.lt _ e.symm).2; exact absurd this (Nat.lt_irrefl _)))]; exact d1
           clear hown hgrow hne d0 d1))
      go_roundw
      case rel => exact ⟨k + 1, (pk ++ pu) ++ [M.kindB kd], by go_num, by omega, by rw [HN.out, HI.out.1, HPK.out]; simp only [List.append_assoc], P4.out.1, P4.out.2⟩
      case measure => simp [intOf]; omega
    · have hltz : ¬ (k : Int) < (cs.length : Int) := by omega
      go_wp2_with fail
      go_ret
      have e : pk = bs ++ M.putT n cs := by rw [HE.out, HI.out.1, List.take_of_length_le (by omega)]
      rw [← e]
      exact ⟨_, rfl, by rw [hp0]; exact HI.out.2.1, HI.out.2.2⟩
end Go.Proofs.Ytlgchdpajfmpdaa
