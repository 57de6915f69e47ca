/- What tables are put as, and taken as: the walk of SchemaPuts. -/
import Derived.Test.YtlgchdpajfmpdaaRTake
namespace Go.Proofs.Ytlgchdpajfmpdaa
open Go.RowKit

/-- Bytes, wherever they lie, put behind bytes of one's own: the run. -/
theorem append_run {w : World} (ty : TypeId) (base : Nat) (v : Value) (k : List UInt8) (hown : w.ownsRow base 5 1 v k.length (S k)) (a : Option Addr) (bs : List UInt8) (cap : Nat) (hcap : a = none → cap = 0) (hA : At w a bs) (hlen : k.length + bs.length ≤ 140737488355328) (hbase : base ≤ w.heap.size) :
    ∃ v' w', (Builtin.append_ #[35, 35] ty #[v, .slice a bs.length cap]).run Try.prog w = .ok v' w' ∧ w'.ownsRow base 5 1 v' (k ++ bs).length (S (k ++ bs)) ∧ w.grownBy w' v.ownBlock := by
  obtain ⟨i0, hi, hz0, hz1, hz2⟩ := info5all
  cases a with
  | none =>
    obtain rfl := hcap rfl
    obtain rfl : bs = [] := by
      cases bs with
      | nil => rfl
      | cons c bs => obtain ⟨b, o', e, _⟩ := hA 0 c rfl; cases e
    exact ⟨v, w, run_append_owned_none (P := Try.prog) (w := w) base 35 ty 5 i0 1 Try.underlying35 hi v k.length (S k) hown, by rw [List.append_nil]; exact hown, ⟨rfl, rfl, rfl, Nat.le_refl _, fun _ _ _ => rfl⟩⟩
  | some ad =>
    obtain ⟨v', w', h1, h2, h3, _⟩ := run_append_own_at w base 35 ty 5 i0 (.int .u8 0) 1 1 Try.underlying35 hi hz0 hz1 hz2 rfl (by decide) v k.length (S k) hown ad bs.length cap (S bs) (by rw [length_S, Nat.mul_one]) (by
      intro j u hu
      rw [S_get] at hu
      cases hj : bs[j]? with
      | none => rw [hj] at hu; cases hu
      | some c =>
        rw [hj] at hu
        obtain ⟨b, o', e, hc⟩ := hA j c hj
        obtain rfl : ad = ⟨b, o', none⟩ := by simpa using e
        rw [Addr.add_mid, hc]
        exact hu) (one_S bs) (by unfold maxLen; omega) (by omega) hbase
    exact ⟨v', w', h1, own_app rfl h2, h3⟩
theorem str_app (x y : List UInt8) : ((⟨x.toArray⟩ : ByteArray) ++ ⟨y.toArray⟩) = ⟨(x ++ y).toArray⟩ := by
  apply ByteArray.ext
  rw [ByteArray.data_append]
  simp
/-- Columns beside a block that has none. -/
theorem ColAt.apart {w w' : World} {a : Option Addr} {cs : List M.Col} {q : Nat} {s : M.St} (h : ColAt w a cs) (hT : Touch (Own1 (.pointer (some ⟨q, 0, none⟩))) w w') (hq : IsS w q s) : ColAt w' a cs := by
  obtain ⟨aq, cq, hb, _⟩ := hq.box
  intro j c hj
  obtain ⟨b, o, e, h0, h1⟩ := h j c hj
  have hne : b ≠ q := by
    intro e2
    subst e2
    rw [cellOf hb (o + j * 2)] at h0
    match hk : o + j * 2, h0 with
    | 0, h0 => simp at h0
    | 1, h0 => simp at h0
    | k + 2, h0 => simp at h0
  have eb := hT.block b (World.block_lt_of_cell? w _ h0) (fun c => hne (own1 c))
  exact ⟨b, o, e, by rw [World.cell?_of_block (w := w) eb]; exact h0, by rw [World.cell?_of_block (w := w) eb]; exact h1⟩
theorem rsame_z (n m : List UInt8) (a b : Option Addr) (ca cb : Nat) (cs ds : List M.Col) (z : Bool) (hz : decide (n = m ∧ cs = ds) = z) (w : World) (hA : ColAt w a cs) (hB : ColAt w b ds) (hl : cs.length ≤ 1000) : Calls Try.prog 20 #[.agg #[.string ⟨n.toArray⟩, .slice a cs.length ca], .agg #[.string ⟨m.toArray⟩, .slice b ds.length cb]] w (Tells w (.bool z)) := by
  subst hz
  exact rsame_any n m a b ca cb cs ds w hA hB hl
theorem rput_z (n : List UInt8) (a : Option Addr) (cap : Nat) (cs : List M.Col) (l : List UInt8) (hl : M.putT n cs = l) (w : World) (hA : ColAt w a cs) (hn : n.length ≤ 1000) (hc : cs.length ≤ 1000) (hcl : ∀ c ∈ cs, c.1.length ≤ 1000) : Calls Try.prog 18 #[.agg #[.string ⟨n.toArray⟩, .slice a cs.length cap]] w (POwn w l) := by
  subst hl
  exact rput_any n a cap cs w hA hn hc hcl
theorem put_at (a0 : Option Addr) (bs : List UInt8) (cap0 : Nat) (n : List UInt8) (a : Option Addr) (cap : Nat) (cs : List M.Col) (l : List UInt8) (hl : bs ++ M.putT n cs = l) (w : World) (hbl : bs.length ≤ 900000) (h0 : At w a0 bs) (hc0 : a0 = none → cap0 = 0) (hA : ColAt w a cs) (hn : n.length ≤ 1000) (hc : cs.length ≤ 1000) (hcl : ∀ c ∈ cs, c.1.length ≤ 1000) :
    Calls Try.prog 17 #[.slice a0 bs.length cap0, .agg #[.string ⟨n.toArray⟩, .slice a cs.length cap]] w (POwn w l) := by
  subst hl
  exact put_any a0 bs cap0 n a cap cs w hbl h0 hc0 hA hn hc hcl
theorem takeS_z (p : Nat) (s : M.St) (z : Nat) (tn : List UInt8) (tc : List M.Col) (st : M.St) (hz : M.tErr s = z) (htn : M.tabN s = tn) (htc : M.tabC s = tc) (hst : M.tSt s = st) (w : World) (h : IsS w p s) :
    Calls Try.prog 23 #[.pointer (some ⟨p, 0, none⟩)] w (fun e w' => ∃ a' cap', e = .returned (.tuple #[.agg #[.string ⟨tn.toArray⟩, .slice a' tc.length cap'], .int .i64 (z : Int)]) ∧ Hid (ColAt w' a' tc ∧ (a' = none → cap' = 0) ∧ IsS w' p st ∧ Touch (Own1 (.pointer (some ⟨p, 0, none⟩))) w w')) := by
  subst hz htn htc hst
  exact takeS_any p s w h
set_option maxRecDepth 100000 in
set_option maxHeartbeats 4000000 in
theorem putsLaw_any (n : List UInt8) (a : Option Addr) (ca : Nat) (cs : List M.Col) (m : List UInt8) (b : Option Addr) (cb : Nat) (ds : List M.Col) (a1 : Option Addr) (bs : List UInt8) (cap1 : Nat) (w : World) (hA : ColAt w a cs) (hB : ColAt w b ds) (h1 : At w a1 bs) (hcap1 : a1 = none → cap1 = 0) (hroom : bs.length ≤ cap1) (hbl : cap1 ≤ maxLen) (hlow : ∀ ad, a1 = some ad → ad.spot = none ∧ ad.block < w.heap.size) :
    Calls Try.prog 4 #[.agg #[.string ⟨n.toArray⟩, .slice a cs.length ca], .agg #[.string ⟨m.toArray⟩, .slice b ds.length cb], .slice a1 bs.length cap1] w (Tells w (.bool true)) := by
  have A0 := hid (show Adds w ((w.alloc (.cells #[.string ⟨n.toArray⟩, .slice a cs.length ca] 24)).alloc (.cells #[.string ⟨m.toArray⟩, .slice b ds.length cb] 24)) from ((Touch.refl _ w).alloc _).alloc _)
  have HB3 := hid (fun w' (h : Adds ((w.alloc (.cells #[.string ⟨n.toArray⟩, .slice a cs.length ca] 24)).alloc (.cells #[.string ⟨m.toArray⟩, .slice b ds.length cb] 24)) w') => two_new w (.string ⟨n.toArray⟩) (.slice a cs.length ca) 24 (Touch.trans ((Touch.refl _ _).alloc _) h))
  have HB4 := hid (fun w' (h : Adds ((w.alloc (.cells #[.string ⟨n.toArray⟩, .slice a cs.length ca] 24)).alloc (.cells #[.string ⟨m.toArray⟩, .slice b ds.length cb] 24)) w') => show w'.cell? ⟨w.heap.size + 1, 0, none⟩ = some (.string ⟨m.toArray⟩) ∧ w'.cell? ⟨w.heap.size + 1, 1, none⟩ = some (.slice b ds.length cb) by
    have := two_new (w.alloc (.cells #[.string ⟨n.toArray⟩, .slice a cs.length ca] 24)) (.string ⟨m.toArray⟩) (.slice b ds.length cb) 24 h
    simpa using this)
  have HC := hid (fun w' (h : Adds ((w.alloc (.cells #[.string ⟨n.toArray⟩, .slice a cs.length ca] 24)).alloc (.cells #[.string ⟨m.toArray⟩, .slice b ds.length cb] 24)) w') => (hA.adds A0.out).adds h)
  have HD := hid (fun w' (h : Adds ((w.alloc (.cells #[.string ⟨n.toArray⟩, .slice a cs.length ca] 24)).alloc (.cells #[.string ⟨m.toArray⟩, .slice b ds.length cb] 24)) w') => (hB.adds A0.out).adds h)
  have H1 := hid (fun w' (h : Adds ((w.alloc (.cells #[.string ⟨n.toArray⟩, .slice a cs.length ca] 24)).alloc (.cells #[.string ⟨m.toArray⟩, .slice b ds.length cb] 24)) w') => (h1.adds A0.out).adds h)
  have HL := hid (And.intro hcap1 (And.intro hroom hlow))
  have hbl2 : (bs.length : Int) ≤ 9223372036854775807 := by unfold maxLen at hbl; omega
  obtain ⟨z, hz⟩ : ∃ z, great n cs = z := ⟨_, rfl⟩
  obtain ⟨y, hy⟩ : ∃ y, great m ds = y := ⟨_, rfl⟩
  have HG := hid (fun w' (h : Adds ((w.alloc (.cells #[.string ⟨n.toArray⟩, .slice a cs.length ca] 24)).alloc (.cells #[.string ⟨m.toArray⟩, .slice b ds.length cb] 24)) w') => great_z n a ca cs z hz w' (HC.out w' h))
  have HH := hid (fun w' (h : Adds ((w.alloc (.cells #[.string ⟨n.toArray⟩, .slice a cs.length ca] 24)).alloc (.cells #[.string ⟨m.toArray⟩, .slice b ds.length cb] 24)) w') => great_z m b cb ds y hy w' (HD.out w' h))
  obtain ⟨c0, c1⟩ := HB3.out _ (Touch.refl _ _)
  clear hA hB h1 hcap1 hbl hlow hroom
  cases z with
  | true =>
    clear hz hy
    go_enter Try.func4, Try.ntmps4
    go_wp2_with (first | (go_at_call 7; refine (HG.out _ (Touch.refl _ _)).mono ?_; rintro e w2 ⟨rfl, hA⟩; have A2 := hid hA; clear hA))
    go_ret
    exact ⟨rfl, A0.out.trans A2.out⟩
  | false =>
  cases y with
  | true =>
    clear hz hy
    go_enter Try.func4, Try.ntmps4
    go_wp2_with (first
      | (go_at_call 7; have A2 := A2; refine (HH.out _ A2.out).mono ?_; rintro e w3 ⟨rfl, hA⟩; have A3 := hid (A2.out.trans hA); clear hA)
      | (go_at_call 7; refine (HG.out _ (Touch.refl _ _)).mono ?_; rintro e w2 ⟨rfl, hA⟩; have A2 := hid hA; obtain ⟨d0, d1⟩ := HB4.out w2 hA; clear hA))
    go_ret
    exact ⟨rfl, A0.out.trans A3.out⟩
  | false =>
    obtain ⟨g1, g2, g3⟩ := great_not hz
    obtain ⟨k1, k2, k3⟩ := great_not hy
    clear hz hy
    by_cases h20 : 2000 < bs.length
    · have h20z : (2000 : Int) < (bs.length : Int) := by omega
      clear g1 g2 g3 k1 k2 k3 h20
      go_enter Try.func4, Try.ntmps4
      go_wp2_with (first
        | (go_at_call 7; have A2 := A2; refine (HH.out _ A2.out).mono ?_; rintro e w3 ⟨rfl, hA⟩; have A3 := hid (A2.out.trans hA); clear hA)
        | (go_at_call 7; refine (HG.out _ (Touch.refl _ _)).mono ?_; rintro e w2 ⟨rfl, hA⟩; have A2 := hid hA; obtain ⟨d0, d1⟩ := HB4.out w2 hA; clear hA))
      go_ret
      exact ⟨rfl, A0.out.trans A3.out⟩
    have h20z : ¬ (2000 : Int) < (bs.length : Int) := by omega
    obtain ⟨PT, hPT⟩ : ∃ l, M.putT n cs = l := ⟨_, rfl⟩
    obtain ⟨al, hal⟩ : ∃ l, bs ++ PT = l := ⟨_, rfl⟩
    obtain ⟨zs, hzs⟩ : ∃ z, decide (n = m ∧ cs = ds) = z := ⟨_, rfl⟩
    obtain ⟨ze, hze⟩ : ∃ z, M.tErr ⟨0, bs⟩ = z := ⟨_, rfl⟩
    obtain ⟨tn, htn⟩ : ∃ l, M.tabN ⟨0, bs⟩ = l := ⟨_, rfl⟩
    obtain ⟨tc, htc⟩ : ∃ l, M.tabC ⟨0, bs⟩ = l := ⟨_, rfl⟩
    obtain ⟨st, hst⟩ : ∃ l, M.tSt ⟨0, bs⟩ = l := ⟨_, rfl⟩
    have htl : tc.length ≤ 1000 := by
      rw [← htc]; unfold M.tabC
      split
      · have := M.tCols_len ⟨0, bs⟩; omega
      · simp
    have hcl : ∀ c ∈ cs, c.1.length ≤ 1000 := fun c hc => by have := g3 c hc; omega
    have HPA := hid (fun a5 c5 w' (h : Adds ((w.alloc (.cells #[.string ⟨n.toArray⟩, .slice a cs.length ca] 24)).alloc (.cells #[.string ⟨m.toArray⟩, .slice b ds.length cb] 24)) w') (hL : Lies w' w'.heap.size a5 bs c5) => put_at a5 bs c5 n a ca cs al (by rw [hPT]; exact hal) w' (by omega) hL.at_ hL.non (HC.out w' h) (by omega) (by omega) hcl)
    have HRP := hid (fun w' (h : Adds ((w.alloc (.cells #[.string ⟨n.toArray⟩, .slice a cs.length ca] 24)).alloc (.cells #[.string ⟨m.toArray⟩, .slice b ds.length cb] 24)) w') => rput_z n a ca cs PT hPT w' (HC.out w' h) (by omega) (by omega) hcl)
    have HS1 := hid (fun w' (h : Adds ((w.alloc (.cells #[.string ⟨n.toArray⟩, .slice a cs.length ca] 24)).alloc (.cells #[.string ⟨m.toArray⟩, .slice b ds.length cb] 24)) w') => same_z n m a b ca cb cs ds zs hzs w' (HC.out w' h) (HD.out w' h) (by omega))
    have HS2 := hid (fun w' (h : Adds ((w.alloc (.cells #[.string ⟨n.toArray⟩, .slice a cs.length ca] 24)).alloc (.cells #[.string ⟨m.toArray⟩, .slice b ds.length cb] 24)) w') => rsame_z n m a b ca cb cs ds zs hzs w' (HC.out w' h) (HD.out w' h) (by omega))
    have HS3 := hid (fun w' (h : Adds ((w.alloc (.cells #[.string ⟨n.toArray⟩, .slice a cs.length ca] 24)).alloc (.cells #[.string ⟨m.toArray⟩, .slice b ds.length cb] 24)) w') => same_z n n a a ca ca cs cs true (by simp) w' (HC.out w' h) (HC.out w' h) (by omega))
    have HRD := hid (fun w' (h : Adds ((w.alloc (.cells #[.string ⟨n.toArray⟩, .slice a cs.length ca] 24)).alloc (.cells #[.string ⟨m.toArray⟩, .slice b ds.length cb] 24)) w') => read_any a1 bs cap1 w' (by omega) HL.out.1 (H1.out w' h))
    have HTK := hid (fun p w' (h : RD w' (.pointer (some ⟨p, 0, none⟩)) ⟨0, bs⟩) => takeT_z p ⟨0, bs⟩ ze tn tc st hze htn htc hst w' h)
    have HRT := hid (fun p w' (h : IsS w' p ⟨0, bs⟩) => takeS_z p ⟨0, bs⟩ ze tn tc st hze htn htc hst w' h)
    have HS4 := hid (fun a5 c5 a6 c6 w' (h5 : ColAt w' a5 tc) (h6 : ColAt w' a6 tc) => rsame_z tn tn a5 a6 c5 c6 tc tc true (by simp) w' h5 h6 htl)
    have hbs2 : bs.length ≤ 2000 := by omega
    have HAL := hid hal
    have HPTL := hid (show PT.length ≤ 1100000 by rw [← hPT]; exact M.len_putT (by omega) (by omega) hcl)
    clear g1 g2 g3 k1 k2 k3 h20 hPT hal hzs hze htn htc hst hcl htl
    go_enter Try.func4, Try.ntmps4
    go_upto_region 3 with (first
      | (go_at_call 7; have A2 := A2; refine (HH.out _ A2.out).mono ?_; rintro e w3 ⟨rfl, hA⟩; have A3 := hid (A2.out.trans hA); clear hA d0 d1)
      | (go_at_call 7; refine (HG.out _ (Touch.refl _ _)).mono ?_; rintro e w2 ⟨rfl, hA⟩; have A2 := hid hA; obtain ⟨d0, d1⟩ := HB4.out w2 hA; clear hA c0 c1))
    generalize hp3 : w.heap.size = p3 at *
    refine H_begin (S := fun w' => Adds w3 w') (by kernel_rfl) ?_
    have hS : Adds w3 w3.drew := (Touch.refl _ w3).drew
    refine H_put (i := 1) 25 (v := .slice a1 bs.length cap1) rfl rfl (by kernel_rfl) (by kernel_rfl) (by kernel_rfl) (fun _ _ _ h => h) (Or.inl ⟨by rfl, fun w' hw' => ?_⟩) hS ?_
    · go_simp
    simp only [Act.put, List.setIfInBounds_toArray, List.set_cons_zero, List.set_cons_succ]
    refine H_put (i := 3) 27 (v := .agg #[.string ⟨n.toArray⟩, .slice a cs.length ca]) rfl rfl (by kernel_rfl) (by kernel_rfl) (by kernel_rfl) (fun _ _ _ h => h) (Or.inl ⟨by rfl, fun w' hw' => ?_⟩) hS ?_
    · obtain ⟨c0, c1⟩ := HB3.out w' (A3.out.trans hw'); go_simp
    simp only [Act.put, List.setIfInBounds_toArray, List.set_cons_zero, List.set_cons_succ]
    refine H_put (i := 6) 30 (v := .slice a1 bs.length cap1) rfl rfl (by kernel_rfl) (by kernel_rfl) (by kernel_rfl) (fun _ _ _ h => h) (Or.inl ⟨by rfl, fun w' hw' => ?_⟩) hS ?_
    · go_simp
    simp only [Act.put, List.setIfInBounds_toArray, List.set_cons_zero, List.set_cons_succ]
    refine H_put (i := 7) 31 (v := .string ⟨bs.toArray⟩) rfl rfl (by kernel_rfl) (by kernel_rfl) (by kernel_rfl) (fun _ _ _ h => h) (Or.inl ⟨by rfl, fun w' hw' => ?_⟩) hS ?_
    · have hcv := conv_at w' a1 bs cap1 (H1.out w' (A3.out.trans hw')); go_simp
    simp only [Act.put, List.setIfInBounds_toArray, List.set_cons_zero, List.set_cons_succ]
    refine H_put (i := 8) 32 (v := .agg #[.string ⟨n.toArray⟩, .slice a cs.length ca]) rfl rfl (by kernel_rfl) (by kernel_rfl) (by kernel_rfl) (fun _ _ _ h => h) (Or.inl ⟨by rfl, fun w' hw' => ?_⟩) hS ?_
    · obtain ⟨c0, c1⟩ := HB3.out w' (A3.out.trans hw'); go_simp
    simp only [Act.put, List.setIfInBounds_toArray, List.set_cons_zero, List.set_cons_succ]
    have Al := hid (show Adds w3 (w3.drew.alloc (.cells #[] 5)) from ((Touch.refl _ w3).drew).alloc _)
    refine H_value (i := 0) 24 (v := .slice (some ⟨w3.heap.size, 0, none⟩) 0 0) (w' := w3.drew.alloc (.cells #[] 5)) (by kernel_rfl) rfl rfl (by rfl) (by go_simp) (fun w' => Adds w3 w') (fun w' h => h) Al.out ?_
    clear hS
    simp only [Act.put, List.setIfInBounds_toArray, List.set_cons_zero, List.set_cons_succ]
    have HO := hid (show (w3.drew.alloc (.cells #[] 5)).ownsRow w3.heap.size 5 1 (.slice (some ⟨w3.heap.size, 0, none⟩) 0 0) 0 [] from World.ownsRow_lit (base := w3.heap.size) (e := 5) (size := 1) w3.drew #[] 0 (Nat.le_refl _) (by decide) rfl)
    obtain ⟨v5, w5, hrun, hown5, hgrow5⟩ := append_run 35 w3.heap.size (.slice (some ⟨w3.heap.size, 0, none⟩) 0 0) [] HO.out a1 bs cap1 HL.out.1 (H1.out _ (A3.out.trans Al.out)) (by simp; omega) Al.out.size
    have hA5 : Adds w3 w5 := Touch.grown Al.out hgrow5 (fun j hj hlt => by simp [Value.ownBlock] at hj; omega)
    rw [List.nil_append] at hown5
    obtain ⟨a5, c5, rfl, hL5⟩ := Own.lies hown5
    have Aw5 := hid hA5
    have HL5 := hid hL5
    refine H_value (i := 2) 26 (v := .slice a5 bs.length c5) (w' := w5) (by kernel_rfl) rfl rfl (by rfl) (by simp [execOp, resolve, invoke, builtin, Act.eval, hrun, Result.andThen]) (fun w' => Adds w5 w') (fun w' h => Aw5.out.trans h) (Touch.refl _ _) ?_
    clear hrun hown5 hgrow5 hA5 hL5 HO
    have hS : Adds w5 w5 := Touch.refl _ _
    simp only [Act.put, List.setIfInBounds_toArray, List.set_cons_zero, List.set_cons_succ]
    refine H_call (i := 4) 28 17 #[.slice a5 bs.length c5, .agg #[.string ⟨n.toArray⟩, .slice a cs.length ca]] (R := POwn w5 al) (by kernel_rfl) rfl rfl (by rfl) (by go_simp) ?_ ?_
    · exact HPA.out a5 c5 w5 (A3.out.trans Aw5.out) HL5.out
    rintro e w6 ⟨v6, rfl, h6, hw6⟩; obtain ⟨a6, c6, rfl, hL6⟩ := Own.lies h6; have HL6 := hid hL6; clear h6 hL6
    have Aw6 := hid (Touch.trans Aw5.out hw6)
    refine ⟨_, fun w' => Adds w6 w', rfl, Touch.refl _ _, fun w' h => hw6.trans h, ?_⟩
    clear hS
    have hS : Adds w6 w6 := Touch.refl _ _
    simp only [Act.put, List.setIfInBounds_toArray, List.set_cons_zero, List.set_cons_succ]
    refine H_put (i := 5) 29 (v := .string ⟨al.toArray⟩) rfl rfl (by kernel_rfl) (by kernel_rfl) (by kernel_rfl) (fun _ _ _ h => h) (Or.inl ⟨by rfl, fun w' hw' => ?_⟩) hS ?_
    · have hcv := conv_at w' a6 al c6 (HL6.out.at_.adds hw'); go_simp
    simp only [Act.put, List.setIfInBounds_toArray, List.set_cons_zero, List.set_cons_succ]
    refine H_call (i := 9) 33 18 #[.agg #[.string ⟨n.toArray⟩, .slice a cs.length ca]] (R := POwn w6 PT) (by kernel_rfl) rfl rfl (by rfl) (by go_simp) ?_ ?_
    · exact HRP.out w6 (A3.out.trans Aw6.out)
    rintro e w7 ⟨v7, rfl, h7, hw7⟩; obtain ⟨a7, c7, rfl, hL7⟩ := Own.lies h7; have HL7 := hid hL7; clear h7 hL7
    have Aw7 := hid (Touch.trans Aw6.out hw7)
    refine ⟨_, fun w' => Adds w7 w', rfl, Touch.refl _ _, fun w' h => hw7.trans h, ?_⟩
    clear hS
    have hS : Adds w7 w7 := Touch.refl _ _
    simp only [Act.put, List.setIfInBounds_toArray, List.set_cons_zero, List.set_cons_succ]
    refine H_put (i := 10) 34 (v := .string ⟨PT.toArray⟩) rfl rfl (by kernel_rfl) (by kernel_rfl) (by kernel_rfl) (fun _ _ _ h => h) (Or.inl ⟨by rfl, fun w' hw' => ?_⟩) hS ?_
    · have hcv := conv_at w' a7 PT c7 (HL7.out.at_.adds hw'); go_simp
    simp only [Act.put, List.setIfInBounds_toArray, List.set_cons_zero, List.set_cons_succ]
    refine H_put (i := 11) 35 (v := .string ⟨al.toArray⟩) rfl rfl (by kernel_rfl) (by kernel_rfl) (by kernel_rfl) (fun _ _ _ h => h) (Or.inl ⟨by rfl, fun w' hw' => ?_⟩) hS ?_
    · go_simp
      rw [if_neg (by have := HPTL.out; omega), str_app, HAL.out]
    simp only [Act.put, List.setIfInBounds_toArray, List.set_cons_zero, List.set_cons_succ]
    refine H_put (i := 12) 36 (v := .bool false) rfl rfl (by kernel_rfl) (by kernel_rfl) (by kernel_rfl) (fun _ _ _ h => h) (Or.inl ⟨by rfl, fun w' hw' => ?_⟩) hS ?_
    · go_simp
    simp only [Act.put, List.setIfInBounds_toArray, List.set_cons_zero, List.set_cons_succ]
    refine H_put (i := 13) 37 (v := .bool false) rfl rfl (by kernel_rfl) (by kernel_rfl) (by kernel_rfl) (fun _ _ _ h => h) (Or.inl ⟨by rfl, fun w' hw' => ?_⟩) hS ?_
    · go_simp
    simp only [Act.put, List.setIfInBounds_toArray, List.set_cons_zero, List.set_cons_succ]
    refine H_put (i := 14) 38 (v := .agg #[.string ⟨n.toArray⟩, .slice a cs.length ca]) rfl rfl (by kernel_rfl) (by kernel_rfl) (by kernel_rfl) (fun _ _ _ h => h) (Or.inl ⟨by rfl, fun w' hw' => ?_⟩) hS ?_
    · obtain ⟨c0, c1⟩ := HB3.out w' (A3.out.trans (Aw7.out.trans hw')); go_simp
    simp only [Act.put, List.setIfInBounds_toArray, List.set_cons_zero, List.set_cons_succ]
    refine H_put (i := 15) 39 (v := .agg #[.string ⟨m.toArray⟩, .slice b ds.length cb]) rfl rfl (by kernel_rfl) (by kernel_rfl) (by kernel_rfl) (fun _ _ _ h => h) (Or.inl ⟨by rfl, fun w' hw' => ?_⟩) hS ?_
    · obtain ⟨c0, c1⟩ := HB4.out w' (A3.out.trans (Aw7.out.trans hw')); go_simp
    simp only [Act.put, List.setIfInBounds_toArray, List.set_cons_zero, List.set_cons_succ]
    refine H_put (i := 17) 41 (v := .agg #[.string ⟨n.toArray⟩, .slice a cs.length ca]) rfl rfl (by kernel_rfl) (by kernel_rfl) (by kernel_rfl) (fun _ _ _ h => h) (Or.inl ⟨by rfl, fun w' hw' => ?_⟩) hS ?_
    · obtain ⟨c0, c1⟩ := HB3.out w' (A3.out.trans (Aw7.out.trans hw')); go_simp
    simp only [Act.put, List.setIfInBounds_toArray, List.set_cons_zero, List.set_cons_succ]
    refine H_put (i := 18) 42 (v := .agg #[.string ⟨m.toArray⟩, .slice b ds.length cb]) rfl rfl (by kernel_rfl) (by kernel_rfl) (by kernel_rfl) (fun _ _ _ h => h) (Or.inl ⟨by rfl, fun w' hw' => ?_⟩) hS ?_
    · obtain ⟨c0, c1⟩ := HB4.out w' (A3.out.trans (Aw7.out.trans hw')); go_simp
    simp only [Act.put, List.setIfInBounds_toArray, List.set_cons_zero, List.set_cons_succ]
    refine H_call (i := 16) 40 19 #[.agg #[.string ⟨n.toArray⟩, .slice a cs.length ca], .agg #[.string ⟨m.toArray⟩, .slice b ds.length cb]] (R := Tells w7 (.bool zs)) (by kernel_rfl) rfl rfl (by rfl) (by go_simp) ?_ ?_
    · exact HS1.out w7 (A3.out.trans Aw7.out)
    rintro e w8 ⟨rfl, hw8⟩
    have Aw8 := hid (Touch.trans Aw7.out hw8)
    refine ⟨_, fun w' => Adds w8 w', rfl, Touch.refl _ _, fun w' h => hw8.trans h, ?_⟩
    clear hS
    have hS : Adds w8 w8 := Touch.refl _ _
    simp only [Act.put, List.setIfInBounds_toArray, List.set_cons_zero, List.set_cons_succ]
    refine H_call (i := 19) 43 20 #[.agg #[.string ⟨n.toArray⟩, .slice a cs.length ca], .agg #[.string ⟨m.toArray⟩, .slice b ds.length cb]] (R := Tells w8 (.bool zs)) (by kernel_rfl) rfl rfl (by rfl) (by go_simp) ?_ ?_
    · exact HS2.out w8 (A3.out.trans Aw8.out)
    rintro e w9 ⟨rfl, hw9⟩
    have Aw9 := hid (Touch.trans Aw8.out hw9)
    refine ⟨_, fun w' => Adds w9 w', rfl, Touch.refl _ _, fun w' h => hw9.trans h, ?_⟩
    clear hS
    have hS : Adds w9 w9 := Touch.refl _ _
    simp only [Act.put, List.setIfInBounds_toArray, List.set_cons_zero, List.set_cons_succ]
    refine H_put (i := 20) 44 (v := .bool false) rfl rfl (by kernel_rfl) (by kernel_rfl) (by kernel_rfl) (fun _ _ _ h => h) (Or.inl ⟨by rfl, fun w' hw' => ?_⟩) hS ?_
    · cases zs <;> go_simp
    simp only [Act.put, List.setIfInBounds_toArray, List.set_cons_zero, List.set_cons_succ]
    refine H_put (i := 21) 45 (v := .bool false) rfl rfl (by kernel_rfl) (by kernel_rfl) (by kernel_rfl) (fun _ _ _ h => h) (Or.inl ⟨by rfl, fun w' hw' => ?_⟩) hS ?_
    · go_simp
    simp only [Act.put, List.setIfInBounds_toArray, List.set_cons_zero, List.set_cons_succ]
    refine H_put (i := 22) 46 (v := .bool false) rfl rfl (by kernel_rfl) (by kernel_rfl) (by kernel_rfl) (fun _ _ _ h => h) (Or.inl ⟨by rfl, fun w' hw' => ?_⟩) hS ?_
    · go_simp
    simp only [Act.put, List.setIfInBounds_toArray, List.set_cons_zero, List.set_cons_succ]
    refine H_put (i := 23) 47 (v := .agg #[.string ⟨n.toArray⟩, .slice a cs.length ca]) rfl rfl (by kernel_rfl) (by kernel_rfl) (by kernel_rfl) (fun _ _ _ h => h) (Or.inl ⟨by rfl, fun w' hw' => ?_⟩) hS ?_
    · obtain ⟨c0, c1⟩ := HB3.out w' (A3.out.trans (Aw9.out.trans hw')); go_simp
    simp only [Act.put, List.setIfInBounds_toArray, List.set_cons_zero, List.set_cons_succ]
    refine H_put (i := 24) 48 (v := .agg #[.string ⟨n.toArray⟩, .slice a cs.length ca]) rfl rfl (by kernel_rfl) (by kernel_rfl) (by kernel_rfl) (fun _ _ _ h => h) (Or.inl ⟨by rfl, fun w' hw' => ?_⟩) hS ?_
    · obtain ⟨c0, c1⟩ := HB3.out w' (A3.out.trans (Aw9.out.trans hw')); go_simp
    simp only [Act.put, List.setIfInBounds_toArray, List.set_cons_zero, List.set_cons_succ]
    refine H_call (i := 25) 49 19 #[.agg #[.string ⟨n.toArray⟩, .slice a cs.length ca], .agg #[.string ⟨n.toArray⟩, .slice a cs.length ca]] (R := Tells w9 (.bool true)) (by kernel_rfl) rfl rfl (by rfl) (by go_simp) ?_ ?_
    · exact HS3.out w9 (A3.out.trans Aw9.out)
    rintro e wx ⟨rfl, hwx⟩
    have Awx := hid (Touch.trans Aw9.out hwx)
    refine ⟨_, fun w' => Adds wx w', rfl, Touch.refl _ _, fun w' h => hwx.trans h, ?_⟩
    clear hS
    have hS : Adds wx wx := Touch.refl _ _
    simp only [Act.put, List.setIfInBounds_toArray, List.set_cons_zero, List.set_cons_succ]
    refine H_put (i := 26) 50 (v := .bool false) rfl rfl (by kernel_rfl) (by kernel_rfl) (by kernel_rfl) (fun _ _ _ h => h) (Or.inl ⟨by rfl, fun w' hw' => ?_⟩) hS ?_
    · go_simp
    simp only [Act.put, List.setIfInBounds_toArray, List.set_cons_zero, List.set_cons_succ]
    refine H_put (i := 27) 51 (v := .bool false) rfl rfl (by kernel_rfl) (by kernel_rfl) (by kernel_rfl) (fun _ _ _ h => h) (Or.inl ⟨by rfl, fun w' hw' => ?_⟩) hS ?_
    · go_simp
    simp only [Act.put, List.setIfInBounds_toArray, List.set_cons_zero, List.set_cons_succ]
    refine wpAnyH_done (by kernel_rfl) ?_ _
    clear hS
    have AX := hid (A3.out.trans Awx.out)
    clear A2 A3 Awx Aw9 Aw8 Aw7 Aw6 Aw5 HL5 HL6 HL7 Al HG HH HPA HRP HS1 HS2 HS3 HAL HPTL HB3 HB4 HC HD
    have HPO := hid hp3
    clear hp3
    have HQ0 := hid (fun wr (h : Adds ((w.alloc (.cells #[.string ⟨n.toArray⟩, .slice a cs.length ca] 24)).alloc (.cells #[.string ⟨m.toArray⟩, .slice b ds.length cb] 24)) wr) => show IsS (wr.alloc (.cells #[.slice a1 bs.length cap1, .int .i64 0] 43)) wr.heap.size ⟨0, bs⟩ from
      ⟨⟨a1, cap1, heap_alloc_new wr _, ⟨(H1.out wr h).adds ((Touch.refl _ wr).alloc _), HL.out.2.1, HL.out.1, fun ad e => ⟨(HL.out.2.2 ad e).1, by have q1 := (HL.out.2.2 ad e).2; have q2 := (A0.out.trans h).size; have q3 := HPO.out; omega⟩⟩⟩, fun c => absurd rfl c, by show bs.length ≤ 1000000; omega, by show (0 : Nat) ≤ 100; omega⟩)
    go_upto_region 8 with (first
      | (go_at_call 21; refine (HRD.out _ AX.out).mono ?_; rintro e wr ⟨p, rfl, q1, q2, q3⟩; have R2 := hid q2; have AR := hid (AX.out.trans q3); have HP := hid (Nat.le_trans AX.out.size q1); have Q0 := hid (HQ0.out wr AR.out); have AQ := hid (AR.out.alloc (.cells #[.slice a1 bs.length cap1, .int .i64 0] 43)); clear q1 q2 q3)
      | (go_at_call 22; refine (HTK.out p _ (R2.out.adds ((Touch.refl _ wr).alloc _))).mono ?_; rintro e wt ⟨at_, ct, rfl, PT1⟩; have AT := hid (Adds.own AQ.out PT1.out.2.2.2 HP.out); have Q1 := hid ((Q0.out.keep PT1.out.2.2.2 (R2.out.adds ((Touch.refl _ wr).alloc _)).cold (fun c => by have := own1 c; have := R2.out.lt; omega)).adds ((Touch.refl _ wt).alloc (.cells #[.string ⟨tn.toArray⟩, .slice at_ tc.length ct] 24))))
      | (go_at_call 23; refine (HRT.out _ _ Q1.out).mono ?_; rintro e ws ⟨a_s, c_s, rfl, PT2⟩; have AS := hid (Adds.own (AT.out.alloc (.cells #[.string ⟨tn.toArray⟩, .slice at_ tc.length ct] 24)) PT2.out.2.2.2 AR.out.size)))
    have hq1 : wr.heap.size < wt.heap.size := by have := PT1.out.2.2.2.size; simp at this; omega
    have hpq : p < wr.heap.size := R2.out.lt
    have AU := hid (show Adds wt (wt.alloc (.cells #[.string ⟨tn.toArray⟩, .slice at_ tc.length ct] 24)) from (Touch.refl _ wt).alloc _)
    have RS := hid (((PT1.out.2.2.1.adds AU.out).keep PT2.out.2.2.2 Q1.out.cold (fun k h1 h2 => by have := own1 h1; have := own1 h2; omega)).adds ((Touch.refl _ ws).alloc (.cells #[.string ⟨tn.toArray⟩, .slice a_s tc.length c_s] 24)))
    have CS := hid (((PT1.out.1.adds AU.out).apart PT2.out.2.2.2 Q1.out).adds ((Touch.refl _ ws).alloc (.cells #[.string ⟨tn.toArray⟩, .slice a_s tc.length c_s] 24)))
    have CT := hid (PT2.out.1.adds ((Touch.refl _ ws).alloc (.cells #[.string ⟨tn.toArray⟩, .slice a_s tc.length c_s] 24)))
    have QS := hid (PT2.out.2.2.1.adds ((Touch.refl _ ws).alloc (.cells #[.string ⟨tn.toArray⟩, .slice a_s tc.length c_s] 24)))
    have X9 := hid (fun w' (h : Adds (ws.alloc (.cells #[.string ⟨tn.toArray⟩, .slice a_s tc.length c_s] 24)) w') => two_cells h (kept ((Touch.refl _ ws).alloc _) (kept1 PT2.out.2.2.2 (heap_alloc_new wt (.cells #[.string ⟨tn.toArray⟩, .slice at_ tc.length ct] 24)) hq1)))
    have X11 := hid (fun w' => two_new ws (.string ⟨tn.toArray⟩) (.slice a_s tc.length c_s) 24 (w' := w'))
    have AV := hid (AS.out.alloc (.cells #[.string ⟨tn.toArray⟩, .slice a_s tc.length c_s] 24))
    generalize ws.alloc (.cells #[.string ⟨tn.toArray⟩, .slice a_s tc.length c_s] 24) = wv at *
    generalize ws.heap.size = p11 at *
    generalize wt.heap.size = p9 at *
    generalize wr.heap.size = q at *
    clear PT1 PT2 Q0 Q1 AQ AT AS AU R2 AR AX HP HQ0 HTK HRT HRD
    obtain ⟨aq, cq, hlq⟩ := QS.out.lcell
    have HLQ := hid (fun w' (h : Adds wv w') => show w'.cell? ⟨q, 0, none⟩ = some (.slice aq st.l.length cq) by rw [World.cell?_of_block (w := wv) (h.block q (World.block_lt_of_cell? wv _ hlq) id)]; exact hlq)
    have HLF := hid (fun w' (h : Adds wv w') => show Calls Try.prog 24 #[.pointer (some ⟨p, 0, none⟩)] w' (Tells w' (.int .i64 (st.l.length : Int))) from (left_any (RS.out.adds h)).mono (fun e w2 ⟨h1, h2⟩ => ⟨h1, h2 ▸ Touch.refl _ _⟩))
    clear hlq
    refine H_begin (S := fun w' => Adds wv w') (by kernel_rfl) ?_
    have hS : Adds wv wv.drew := (Touch.refl _ wv).drew
    refine H_put (i := 0) 67 (v := .agg #[.string ⟨tn.toArray⟩, .slice at_ tc.length ct]) rfl rfl (by kernel_rfl) (by kernel_rfl) (by kernel_rfl) (fun _ _ _ h => h) (Or.inl ⟨by rfl, fun w' hw' => ?_⟩) hS ?_
    · obtain ⟨c0, c1⟩ := X9.out w' hw'; go_simp
    simp only [Act.put, List.setIfInBounds_toArray, List.set_cons_zero, List.set_cons_succ]
    refine H_put (i := 1) 68 (v := .agg #[.string ⟨tn.toArray⟩, .slice a_s tc.length c_s]) rfl rfl (by kernel_rfl) (by kernel_rfl) (by kernel_rfl) (fun _ _ _ h => h) (Or.inl ⟨by rfl, fun w' hw' => ?_⟩) hS ?_
    · obtain ⟨c0, c1⟩ := X11.out w' hw'; go_simp
    simp only [Act.put, List.setIfInBounds_toArray, List.set_cons_zero, List.set_cons_succ]
    refine H_call (i := 2) 69 20 #[.agg #[.string ⟨tn.toArray⟩, .slice at_ tc.length ct], .agg #[.string ⟨tn.toArray⟩, .slice a_s tc.length c_s]] (R := Tells wv.drew (.bool true)) (by kernel_rfl) rfl rfl (by rfl) (by go_simp) ?_ ?_
    · exact HS4.out at_ ct a_s c_s _ (CS.out.adds hS) (CT.out.adds hS)
    rintro e wa ⟨rfl, hwa⟩
    have Awa := hid (Touch.trans hS hwa)
    refine ⟨_, fun w' => Adds wa w', rfl, Touch.refl _ _, fun w' h => Awa.out.trans h, ?_⟩
    clear hS
    have hS : Adds wa wa := Touch.refl _ _
    simp only [Act.put, List.setIfInBounds_toArray, List.set_cons_zero, List.set_cons_succ]
    refine H_put (i := 3) 70 (v := .bool true) rfl rfl (by kernel_rfl) (by kernel_rfl) (by kernel_rfl) (fun _ _ _ h => h) (Or.inl ⟨by rfl, fun w' hw' => ?_⟩) hS ?_
    · go_simp
    simp only [Act.put, List.setIfInBounds_toArray, List.set_cons_zero, List.set_cons_succ]
    refine H_put (i := 4) 71 (v := .int .i64 (ze : Int)) rfl rfl (by kernel_rfl) (by kernel_rfl) (by kernel_rfl) (fun _ _ _ h => h) (Or.inl ⟨by rfl, fun w' hw' => ?_⟩) hS ?_
    · go_simp
    simp only [Act.put, List.setIfInBounds_toArray, List.set_cons_zero, List.set_cons_succ]
    refine H_put (i := 5) 72 (v := .int .i64 (ze : Int)) rfl rfl (by kernel_rfl) (by kernel_rfl) (by kernel_rfl) (fun _ _ _ h => h) (Or.inl ⟨by rfl, fun w' hw' => ?_⟩) hS ?_
    · go_simp
    simp only [Act.put, List.setIfInBounds_toArray, List.set_cons_zero, List.set_cons_succ]
    refine H_put (i := 6) 73 (v := .bool true) rfl rfl (by kernel_rfl) (by kernel_rfl) (by kernel_rfl) (fun _ _ _ h => h) (Or.inl ⟨by rfl, fun w' hw' => ?_⟩) hS ?_
    · go_simp
    simp only [Act.put, List.setIfInBounds_toArray, List.set_cons_zero, List.set_cons_succ]
    refine H_put (i := 7) 74 (v := .bool true) rfl rfl (by kernel_rfl) (by kernel_rfl) (by kernel_rfl) (fun _ _ _ h => h) (Or.inl ⟨by rfl, fun w' hw' => ?_⟩) hS ?_
    · go_simp
    simp only [Act.put, List.setIfInBounds_toArray, List.set_cons_zero, List.set_cons_succ]
    refine H_put (i := 8) 75 (v := .bool true) rfl rfl (by kernel_rfl) (by kernel_rfl) (by kernel_rfl) (fun _ _ _ h => h) (Or.inl ⟨by rfl, fun w' hw' => ?_⟩) hS ?_
    · go_simp
    simp only [Act.put, List.setIfInBounds_toArray, List.set_cons_zero, List.set_cons_succ]
    refine H_put (i := 9) 76 (v := .pointer (some ⟨p, 0, none⟩)) rfl rfl (by kernel_rfl) (by kernel_rfl) (by kernel_rfl) (fun _ _ _ h => h) (Or.inl ⟨by rfl, fun w' hw' => ?_⟩) hS ?_
    · go_simp
    simp only [Act.put, List.setIfInBounds_toArray, List.set_cons_zero, List.set_cons_succ]
    refine H_put (i := 11) 78 (v := .pointer (some ⟨q, 0, none⟩)) rfl rfl (by kernel_rfl) (by kernel_rfl) (by kernel_rfl) (fun _ _ _ h => h) (Or.inl ⟨by rfl, fun w' hw' => ?_⟩) hS ?_
    · go_simp
    simp only [Act.put, List.setIfInBounds_toArray, List.set_cons_zero, List.set_cons_succ]
    refine H_put (i := 12) 79 (v := .pointer (some ⟨q, 0, none⟩)) rfl rfl (by kernel_rfl) (by kernel_rfl) (by kernel_rfl) (fun _ _ _ h => h) (Or.inl ⟨by rfl, fun w' hw' => ?_⟩) hS ?_
    · go_simp
    simp only [Act.put, List.setIfInBounds_toArray, List.set_cons_zero, List.set_cons_succ]
    refine H_put (i := 13) 80 (v := .pointer (some ⟨q, 0, none⟩)) rfl rfl (by kernel_rfl) (by kernel_rfl) (by kernel_rfl) (fun _ _ _ h => h) (Or.inl ⟨by rfl, fun w' hw' => ?_⟩) hS ?_
    · go_simp
    simp only [Act.put, List.setIfInBounds_toArray, List.set_cons_zero, List.set_cons_succ]
    refine H_put (i := 14) 81 (v := .slice aq st.l.length cq) rfl rfl (by kernel_rfl) (by kernel_rfl) (by kernel_rfl) (fun _ _ _ h => h) (Or.inl ⟨by rfl, fun w' hw' => ?_⟩) hS ?_
    · have c0 := HLQ.out w' (Awa.out.trans hw'); go_simp
    simp only [Act.put, List.setIfInBounds_toArray, List.set_cons_zero, List.set_cons_succ]
    refine H_put (i := 15) 82 (v := .int .i64 (st.l.length : Int)) rfl rfl (by kernel_rfl) (by kernel_rfl) (by kernel_rfl) (fun _ _ _ h => h) (Or.inl ⟨by rfl, fun w' hw' => ?_⟩) hS ?_
    · go_simp
    simp only [Act.put, List.setIfInBounds_toArray, List.set_cons_zero, List.set_cons_succ]
    refine H_call (i := 10) 77 24 #[.pointer (some ⟨p, 0, none⟩)] (R := Tells wa (.int .i64 (st.l.length : Int))) (by kernel_rfl) rfl rfl (by rfl) (by go_simp) ?_ ?_
    · exact HLF.out wa Awa.out
    rintro e wb ⟨rfl, hwb⟩
    have Awb := hid (Touch.trans Awa.out hwb)
    refine ⟨_, fun w' => Adds wb w', rfl, Touch.refl _ _, fun w' h => hwb.trans h, ?_⟩
    clear hS
    have hS : Adds wb wb := Touch.refl _ _
    simp only [Act.put, List.setIfInBounds_toArray, List.set_cons_zero, List.set_cons_succ]
    refine H_put (i := 16) 83 (v := .bool true) rfl rfl (by kernel_rfl) (by kernel_rfl) (by kernel_rfl) (fun _ _ _ h => h) (Or.inl ⟨by rfl, fun w' hw' => ?_⟩) hS ?_
    · go_simp
    simp only [Act.put, List.setIfInBounds_toArray, List.set_cons_zero, List.set_cons_succ]
    refine H_put (i := 17) 84 (v := .bool true) rfl rfl (by kernel_rfl) (by kernel_rfl) (by kernel_rfl) (fun _ _ _ h => h) (Or.inl ⟨by rfl, fun w' hw' => ?_⟩) hS ?_
    · go_simp
    simp only [Act.put, List.setIfInBounds_toArray, List.set_cons_zero, List.set_cons_succ]
    refine H_put (i := 18) 85 (v := .bool true) rfl rfl (by kernel_rfl) (by kernel_rfl) (by kernel_rfl) (fun _ _ _ h => h) (Or.inl ⟨by rfl, fun w' hw' => ?_⟩) hS ?_
    · go_simp
    simp only [Act.put, List.setIfInBounds_toArray, List.set_cons_zero, List.set_cons_succ]
    refine H_call (i := 19) 86 16 #[] (R := Tells wb (.bool true)) (by kernel_rfl) rfl rfl (by rfl) (by go_simp) ?_ ?_
    · exact works_any wb
    rintro e wc ⟨rfl, hwc⟩
    have Awc := hid (Touch.trans Awb.out hwc)
    refine ⟨_, fun w' => Adds wc w', rfl, Touch.refl _ _, fun w' h => hwc.trans h, ?_⟩
    clear hS
    have hS : Adds wc wc := Touch.refl _ _
    simp only [Act.put, List.setIfInBounds_toArray, List.set_cons_zero, List.set_cons_succ]
    refine H_put (i := 20) 87 (v := .bool true) rfl rfl (by kernel_rfl) (by kernel_rfl) (by kernel_rfl) (fun _ _ _ h => h) (Or.inl ⟨by rfl, fun w' hw' => ?_⟩) hS ?_
    · go_simp
    simp only [Act.put, List.setIfInBounds_toArray, List.set_cons_zero, List.set_cons_succ]
    refine H_put (i := 21) 6 (v := .bool true) rfl rfl (by kernel_rfl) (by kernel_rfl) (by kernel_rfl) (fun _ _ _ h => h) (Or.inl ⟨by rfl, fun w' hw' => ?_⟩) hS ?_
    · go_simp
    simp only [Act.put, List.setIfInBounds_toArray, List.set_cons_zero, List.set_cons_succ]
    refine wpAnyH_done (by kernel_rfl) ?_ _
    clear hS
    go_wp2_with fail
    go_ret
    exact ⟨rfl, (A0.out.trans AV.out).trans Awc.out⟩
end Go.Proofs.Ytlgchdpajfmpdaa
