/- The reference: a table as bytes; whether two tables are the same. -/
import Derived.Test.YtlgchdpajfmpdaaRCol
import Derived.Test.YtlgchdpajfmpdaaRPut
namespace Go.Proofs.Ytlgchdpajfmpdaa
open Go.RowKit

theorem rtextp_z (ts l : List UInt8) (hl : M.enc ts.length ++ ts = l) (ht : ts.length ≤ 1000000) (w : World) : Calls Try.prog 35 #[.string ⟨ts.toArray⟩] w (POwn w l) := by
  subst hl
  exact rtextp_any ts ht w
theorem ruintp_z (n : Nat) (l : List UInt8) (hl : M.enc n = l) (hn : n < 18446744073709551616) (w : World) : Calls Try.prog 36 #[.int .u64 (n : Int)] w (POwn w l) := by
  subst hl
  exact ruintp_any n hn w
/-- Bytes put behind bytes of one's own: what is there then. -/
theorem own_more {w w2 w3 : World} {B : Nat} {v v3 : Value} {k ls : List UInt8} (hw : w.heap.size = B) (hO : w2.ownsRow B 5 1 v k.length (S k)) (hA : Adds w w2) (h : w3.ownsRow B 5 1 v3 (k.length + ls.length) (S k ++ S ls)) (hg : w2.grownBy w3 v.ownBlock) : w3.ownsRow B 5 1 v3 (k ++ ls).length (S (k ++ ls)) ∧ Adds w w3 :=
  ⟨own_app rfl h, Touch.grown hA hg (fun j hj hlt => by have := (hO.lt j hj).1; omega)⟩
set_option maxRecDepth 100000 in
set_option maxHeartbeats 2000000 in
theorem rput_any (n : List UInt8) (a : Option Addr) (cap : Nat) (cs : List M.Col) (w : World) (hA : ColAt w a cs) (hn : n.length ≤ 1000) (hl : cs.length ≤ 1000) (hcl : ∀ c ∈ cs, c.1.length ≤ 1000) : Calls Try.prog 18 #[.agg #[.string ⟨n.toArray⟩, .slice a cs.length cap]] w (POwn w (M.putT n cs)) := by
  obtain ⟨L1, hL1⟩ : ∃ l, M.enc n.length ++ n = l := ⟨_, rfl⟩
  obtain ⟨L2, hL2⟩ : ∃ l, M.enc cs.length = l := ⟨_, rfl⟩
  have hl1 : L1.length ≤ 2000 := by
    have := M.len_enc10 (n := n.length) (by omega)
    rw [← hL1, List.length_append]; omega
  have hl2 : L2.length ≤ 10 := by rw [← hL2]; exact M.len_enc10 (by omega)
  have HE := hid (show M.putT n cs = (L1 ++ L2) ++ M.colsB cs by rw [← hL2, ← hL1, M.putT]; simp only [List.append_assoc])
  have A0 := hid (show Adds w (w.alloc (.cells #[.string ⟨n.toArray⟩, .slice a cs.length cap] 24)) from (Touch.refl _ w).alloc _)
  have HB := hid (fun w' => two_new w (.string ⟨n.toArray⟩) (.slice a cs.length cap) 24 (w' := w'))
  obtain ⟨B, hB⟩ : ∃ B, (w.alloc (.cells #[.string ⟨n.toArray⟩, .slice a cs.length cap] 24)).heap.size = B := ⟨_, rfl⟩
  have HBB := hid hB
  have HT := hid (show Calls Try.prog 35 #[.string ⟨n.toArray⟩] (w.alloc (.cells #[.string ⟨n.toArray⟩, .slice a cs.length cap] 24)) (fun e w' => ∃ v, e = .returned v ∧ Hid (w'.ownsRow B 5 1 v L1.length (S L1) ∧ Adds (w.alloc (.cells #[.string ⟨n.toArray⟩, .slice a cs.length cap] 24)) w')) from (rtextp_z n L1 hL1 (by omega) _).mono (fun e w' ⟨v, h0, h1, h2⟩ => ⟨v, h0, hB ▸ h1, h2⟩))
  have HU := hid (ruintp_z cs.length L2 hL2 (by omega))
  have HA := hid (fun w' (h : Adds (w.alloc (.cells #[.string ⟨n.toArray⟩, .slice a cs.length cap] 24)) w') => (hA.adds A0.out).adds h)
  have HC := hid hcl
  have HL2 := hid (And.intro hl1 hl2)
  clear hL1 hL2 hl1 hl2 hA hcl hB
  go_enter Try.func18, Try.ntmps18
  go_wp2_with (first
    | (go_at_call 35; refine HT.out.mono ?_; rintro e w1 ⟨v1, rfl, P1⟩; obtain ⟨_, c1⟩ := HB.out w1 P1.out.2)
    | (go_at_call 36; refine (HU.out _).mono ?_; rintro e w2 ⟨v2, rfl, h1, h2⟩; obtain ⟨a2, cap2, rfl, hL2⟩ := Own.lies h1; have P2 := hid hL2; have B2 := hid h2; have A2 := hid (P1.out.2.trans h2); clear h1 h2 hL2 c1)
    | (at_builtin; refine append_bytes rfl _ _ rfl B _ L1.length (S L1) rfl (own_keep P1.out.1 B2.out) a2 L2 cap2 rfl P2.out.non P2.out.at_ (by have := HL2.out; omega) (by rw [← HBB.out]; exact A2.out.size) ?_; intro v3 w3 hown hgrow hne; have P3 := hid (own_more HBB.out (own_keep P1.out.1 B2.out) A2.out hown hgrow); obtain ⟨_, c3⟩ := HB.out w3 P3.out.2; clear hown hgrow hne))
  clear c3
  go_loopw [3, 4] (fun vv iv wr => ∃ (k : Nat) (pk : List UInt8), iv = .int .i64 (k : Int) ∧ k ≤ cs.length ∧ Hid (pk = (L1 ++ L2) ++ M.colsB (cs.take k) ∧ wr.ownsRow B 5 1 vv pk.length (S pk) ∧ Adds (w.alloc (.cells #[.string ⟨n.toArray⟩, .slice a cs.length cap] 24)) wr)) (fun _ iv _ => cs.length - (intOf iv).toNat)
  case atStart => exact ⟨0, L1 ++ L2, rfl, Nat.zero_le _, by simp [M.colsB], P3.out.1, P3.out.2⟩
  case round =>
    obtain ⟨k, pk, rfl, hk, HI⟩ := hrel
    obtain ⟨_, k1⟩ := HB.out wr HI.out.2.2
    by_cases hlt : k < cs.length
    · have hltz : (k : Int) < (cs.length : Int) := by omega
      obtain ⟨c, hc⟩ : ∃ c, cs[k]? = some c := ⟨cs[k], List.getElem?_eq_getElem hlt⟩
      have HN := hid (M.colsB_take hc)
      have hcn := HC.out c (List.mem_of_getElem? hc)
      obtain ⟨b, o, ea, c0, c1⟩ := HA.out wr HI.out.2.2 k c hc
      have HD := hid (fun w' (h : Adds (w.alloc (.cells #[.string ⟨n.toArray⟩, .slice a cs.length cap] 24)) w') => show w'.cell? ⟨b, o + k * 2 + 1, none⟩ = some (.int .i64 c.2) by
        obtain ⟨b', o', ea', _, d1⟩ := HA.out w' h k c hc
        rw [ea] at ea'
        obtain ⟨rfl, rfl⟩ : b = b' ∧ o = o' := by simpa using ea'
        exact d1)
      subst ea
      obtain ⟨s, kd⟩ := c
      simp only at c0 c1 hcn HD
      obtain ⟨pu, hpu⟩ : ∃ l, M.enc s.length ++ s = l := ⟨_, rfl⟩
      have HPU := hid (rtextp_z s pu hpu (by omega))
      have HPL := hid (show pk.length ≤ 2000000 ∧ pu.length ≤ 2000 by
        have e3 := M.len_colsB (r := cs.take k) (fun v hv => HC.out v (List.mem_of_mem_take hv))
        rw [List.length_take] at e3
        have e2 := HL2.out
        have e1 := M.len_enc10 (n := s.length) (by omega)
        rw [HI.out.1, ← hpu, List.length_append, List.length_append, List.length_append]
        omega)
      have HPK := hid (show M.colB (s, kd) = pu ++ [M.kindB kd] by rw [← hpu]; rfl)
      have HK := hid (M.kindB_nat kd)
      clear hc hpu c1
      go_wp2_with (first
        | (go_at_call 35; refine (HPU.out _).mono ?_; rintro e w2 ⟨v2x, rfl, h1, h2⟩; obtain ⟨a2, cap2, rfl, hL2⟩ := Own.lies h1; have P2 := hid hL2; have B2 := hid h2; have A2 := hid (HI.out.2.2.trans h2); clear h1 h2 hL2 c0 k1)
        | (at_builtin; have P5 := P5; refine append_bytes rfl _ _ rfl B _ (pk ++ pu).length (S (pk ++ pu)) rfl (own_keep P5.out.1 ((Touch.refl _ w3).alloc _)) (some ⟨w3.heap.size, 0, none⟩) [M.kindB kd] 1 rfl (fun e => (by cases e)) (by rw [← HK.out]; exact At.one w3 (M.kindB kd)) (by have := HPL.out; rw [List.length_append]; simp; omega) (by rw [← HBB.out]; exact (P5.out.2.alloc _).size) ?_; intro v4 w4 hown hgrow hne; have P6 := hid (own_more HBB.out (own_keep P5.out.1 ((Touch.refl _ w3).alloc _)) (P5.out.2.alloc _) hown hgrow); clear hown hgrow hne)
        | (at_builtin; refine append_bytes rfl _ _ rfl B _ pk.length (S pk) rfl (own_keep HI.out.2.1 B2.out) a2 pu cap2 rfl P2.out.non P2.out.at_ (by have := HPL.out; omega) (by rw [← HBB.out]; exact A2.out.size) ?_; intro v3 w3 hown hgrow hne; have P5 := hid (own_more HBB.out (own_keep HI.out.2.1 B2.out) A2.out hown hgrow); obtain ⟨_, k2⟩ := HB.out w3 P5.out.2; have k3 := HD.out w3 P5.out.2; clear hown hgrow hne))
      go_roundw
      case rel => exact ⟨k + 1, (pk ++ pu) ++ [M.kindB kd], by go_num, by omega, by rw [HN.out, HI.out.1, HPK.out]; simp only [List.append_assoc], P6.out.1, P6.out.2⟩
      case measure => simp [intOf]; omega
    · have hltz : ¬ (k : Int) < (cs.length : Int) := by omega
      go_wp2_with fail
      go_ret
      have e : pk = M.putT n cs := by rw [HE.out, HI.out.1, List.take_of_length_le (by omega)]
      rw [← e]
      exact ⟨_, rfl, own_base HI.out.2.1 (by rw [← HBB.out]; exact A0.out.size), A0.out.trans HI.out.2.2⟩
set_option maxRecDepth 100000 in
set_option maxHeartbeats 2000000 in
theorem rsame_any (n m : List UInt8) (a b : Option Addr) (ca cb : Nat) (cs ds : List M.Col) (w : World) (hA : ColAt w a cs) (hB : ColAt w b ds) (hl : cs.length ≤ 1000) : Calls Try.prog 20 #[.agg #[.string ⟨n.toArray⟩, .slice a cs.length ca], .agg #[.string ⟨m.toArray⟩, .slice b ds.length cb]] w (Tells w (.bool (decide (n = m ∧ cs = ds)))) := by
  have A1 : Adds w ((w.alloc (.cells #[.string ⟨n.toArray⟩, .slice a cs.length ca] 24)).alloc (.cells #[.string ⟨m.toArray⟩, .slice b ds.length cb] 24)) := ((Touch.refl _ w).alloc _).alloc _
  have HA := hid (And.intro (hA.adds A1) (hB.adds A1))
  have AX := hid A1
  have HB1 := hid (fun w' (h : Adds ((w.alloc (.cells #[.string ⟨n.toArray⟩, .slice a cs.length ca] 24)).alloc (.cells #[.string ⟨m.toArray⟩, .slice b ds.length cb] 24)) w') => two_new w (.string ⟨n.toArray⟩) (.slice a cs.length ca) 24 (Touch.trans ((Touch.refl _ _).alloc _) h))
  have HB2 := hid (fun w' (h : Adds ((w.alloc (.cells #[.string ⟨n.toArray⟩, .slice a cs.length ca] 24)).alloc (.cells #[.string ⟨m.toArray⟩, .slice b ds.length cb] 24)) w') => show w'.cell? ⟨w.heap.size + 1, 0, none⟩ = some (.string ⟨m.toArray⟩) ∧ w'.cell? ⟨w.heap.size + 1, 1, none⟩ = some (.slice b ds.length cb) by
    have := two_new (w.alloc (.cells #[.string ⟨n.toArray⟩, .slice a cs.length ca] 24)) (.string ⟨m.toArray⟩) (.slice b ds.length cb) 24 h
    simpa using this)
  clear hA hB A1
  obtain ⟨z, hz⟩ : ∃ z, decide (n = m ∧ cs = ds) = z := ⟨_, rfl⟩
  rw [hz]
  by_cases h : n = m
  · subst h
    have zb : (n == n) = true := by simp
    by_cases hn : cs.length = ds.length
    · have zn : ((cs.length : Int) == (ds.length : Int)) = true := by rw [beq_iff_eq]; omega
      have HNN := hid hn
      have HF0 := hid (show z = decide (cs = ds) by rw [← hz, decide_eq_decide]; simp)
      clear hn hz
      go_enter Try.func20, Try.ntmps20
      go_wp2_with fail
      go_loopw [5] (fun iv wr => ∃ i : Nat, iv = .int .i64 (i : Int) ∧ i ≤ cs.length ∧ Hid (cs.take i = ds.take i ∧ Adds ((w.alloc (.cells #[.string ⟨n.toArray⟩, .slice a cs.length ca] 24)).alloc (.cells #[.string ⟨n.toArray⟩, .slice b ds.length cb] 24)) wr)) (fun iv _ => cs.length - (intOf iv).toNat)
      case atStart => exact ⟨0, rfl, Nat.zero_le _, by simp, Touch.refl _ _⟩
      case round =>
        obtain ⟨i, rfl, hi, HI⟩ := hrel
        obtain ⟨_, c1⟩ := HB1.out wr HI.out.2
        obtain ⟨_, c2⟩ := HB2.out wr HI.out.2
        by_cases hlt : i < cs.length
        · have hltz : (i : Int) < (cs.length : Int) := by omega
          have hltd : (i : Int) < (ds.length : Int) := by have := HNN.out; omega
          obtain ⟨c, hc⟩ : ∃ c, cs[i]? = some c := ⟨cs[i], List.getElem?_eq_getElem hlt⟩
          obtain ⟨d, hd⟩ : ∃ d, ds[i]? = some d := ⟨ds[i]'(by omega), List.getElem?_eq_getElem _⟩
          obtain ⟨b1, o1, ea, d0, d1⟩ := (HA.out.1.adds HI.out.2) i c hc
          obtain ⟨b2, o2, eb, e0, e1⟩ := (HA.out.2.adds HI.out.2) i d hd
          subst ea eb
          obtain ⟨s, k⟩ := c
          obtain ⟨t, l⟩ := d
          have HC := hid (And.intro hc hd)
          simp only at d0 d1 e0 e1
          clear hc hd
          by_cases hst : s = t
          · subst hst
            have hs1 : (s == s) = true := by simp
            by_cases hkl : k = l
            · subst hkl
              have HF := hid (take_eq HC.out.1 HC.out.2 HI.out.1)
              go_upto_region 6 with fail
              go_quiet (fail)
              go_wp2_with fail
              go_roundw
              case rel => exact ⟨i + 1, by go_num, by omega, HF.out, HI.out.2.drewN _⟩
              case measure => simp [intOf]; omega
            · have hk1 : (k == l) = false := by rw [beq_eq_false_iff_ne]; exact hkl
              have HF := hid (show ¬ cs = ds from fun e => hkl (by have h1 := HC.out.1; rw [e, HC.out.2] at h1; simp at h1; exact h1.symm))
              clear hkl
              go_upto_region 6 with fail
              go_quiet (fail)
              go_wp2_with fail
              go_ret
              exact ⟨by rw [HF0.out, decide_eq_false HF.out]; rfl, AX.out.trans (HI.out.2.drewN _)⟩
          · have hs1 : (s == t) = false := by rw [beq_eq_false_iff_ne]; exact hst
            have HF := hid (show ¬ cs = ds from fun e => hst (by have h1 := HC.out.1; rw [e, HC.out.2] at h1; simp at h1; exact h1.1.symm))
            clear hst
            go_upto_region 6 with fail
            go_quiet (fail)
            go_wp2_with fail
            go_ret
            exact ⟨by rw [HF0.out, decide_eq_false HF.out]; rfl, AX.out.trans (HI.out.2.drewN _)⟩
        · have hltz : ¬ (i : Int) < (cs.length : Int) := by omega
          have HF := hid (show cs = ds by have := HI.out.1; rw [List.take_of_length_le (by omega), List.take_of_length_le (by have := HNN.out; omega)] at this; exact this)
          go_wp2_with fail
          go_ret
          exact ⟨by rw [HF0.out, decide_eq_true HF.out]; rfl, AX.out.trans HI.out.2⟩
    · have zn : ((cs.length : Int) == (ds.length : Int)) = false := by rw [beq_eq_false_iff_ne]; omega
      have HF := hid (show z = false by rw [← hz]; exact decide_eq_false (fun e => hn (by rw [e.2])))
      clear hn hz
      go_enter Try.func20, Try.ntmps20
      go_wp2_with fail
      go_ret
      exact ⟨by rw [HF.out]; rfl, AX.out⟩
  · have HF := hid (show z = false by rw [← hz]; exact decide_eq_false (fun e => h e.1))
    have hb : (n == m) = false := by rw [beq_eq_false_iff_ne]; exact h
    clear h hz
    go_enter Try.func20, Try.ntmps20
    go_wp2_with fail
    go_ret
    exact ⟨by rw [HF.out]; rfl, AX.out⟩
end Go.Proofs.Ytlgchdpajfmpdaa
