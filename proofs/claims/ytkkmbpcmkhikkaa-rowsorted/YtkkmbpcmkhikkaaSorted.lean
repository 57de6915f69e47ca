/- What is sorted: the walk of RowSorted. -/
import Derived.Test.YtkkmbpcmkhikkaaSame
import Derived.Deep.CutRange
import Derived.Deep.DeepCutAuto
namespace Go.Proofs.Ytkkmbpcmkhikkaa
open Go.RowKit

theorem bag_get {l n : List Hd} (hl : n.length = l.length) (h : ∀ i : Nat, i < l.length → n[i]!.r = l[i]!.r) : bag n = bag l := by
  unfold bag
  apply List.ext_getElem (by simp [hl])
  intro i h1 h2
  have h3 : i < n.length := by simpa using h1
  have h4 : i < l.length := by simpa using h2
  have := h i h4
  rw [getElem!_pos n i h3, getElem!_pos l i h4] at this
  simp only [List.getElem_map, prr, this]
theorem oks_get {l n : List Hd} (hl : n.length = l.length) (h : ∀ i : Nat, i < l.length → n[i]!.r = l[i]!.r) (ho : Oks l) : Oks n := by
  intro x hx
  obtain ⟨i, hi, e⟩ := List.getElem_of_mem hx
  have := h i (by omega)
  rw [getElem!_pos n i hi, getElem!_pos l i (by omega), e] at this
  rw [this]
  exact ho _ (List.getElem_mem _)
theorem srt_get {cf : List M.V → List M.V → Int} {l n : List Hd} (hl : n.length = l.length) (h : ∀ i : Nat, i < l.length → n[i]!.r = l[i]!.r) (hs : M.Srt (ltc cf) 0 l.length l) : M.Srt (ltc cf) 0 n.length n := by
  intro i j h1 h2 h3
  have := hs i j h1 h2 (by omega)
  unfold ltc at this ⊢
  rw [h i (by omega), h j (by omega)]
  exact this
/-- What Sort leaves, in short. -/
structure Made (w : World) (o : List (Int × Bool)) (l : List Hd) (a : Option Addr) (cap : Nat) (w' : World) (n : List Hd) : Prop where
  len : n.length = l.length
  isl : IsL w' a cap n
  bag : (bag n).Perm (bag l)
  srt : M.Srt (ltc (M.bycmp o)) 0 n.length n
  same : M.Srt (ltc (M.bycmp o)) 0 l.length l → ∀ i : Nat, i < l.length → n[i]!.r = l[i]!.r
  adds : Adds w w'
theorem PSorted.made {w : World} {o : List (Int × Bool)} {l : List Hd} {e : Ending} {w' : World} (h : PSorted w o l e w') (hl : l.length ≤ 1000000) (ho : Oks l) : ∃ a cap n, e = .returned (.slice a l.length cap) ∧ Hid (Made w o l a cap w' n) := by
  obtain ⟨a, cap, rfl, hh⟩ := h
  obtain ⟨m, n, h1, h2, h3, h4, h5⟩ := hh.out
  have hml := h1.mv.len
  have om := ho.perm h1.mv.perm
  refine ⟨a, cap, n, rfl, by omega, h4.isl (by omega) (oks_get h2 h3 om), ?_, srt_get h2 h3 (by rw [hml]; exact h1.srt), fun hs i hi => ?_, h5⟩
  · rw [bag_get h2 h3]
    exact h1.mv.perm.map prr
  · rw [h3 i (by omega), h1.same hs]
theorem rowSorted_at {K L : Nat} (ka : Option Addr) (kcap : Nat) (o : List (Int × Bool)) (a : Option Addr) (cap : Nat) (l : List Hd) (w : World) (hK : o.length = K) (hL : l.length = L) (hk : KAt w ka o) (hol : o.length ≤ 1000000) (h : IsL w a cap l) :
    Calls Try.prog 10 #[.slice a L cap, .slice ka K kcap] w (PIs w (M.bycmp o) l) := by
  subst hK hL
  exact rowSorted_any ka kcap o a cap l w hk hol h.at_ h.len h.rows
theorem rowSort_made {L : Nat} (ka : Option Addr) (kcap : Nat) (o : List (Int × Bool)) (a : Option Addr) (cap : Nat) (l : List Hd) (w : World) (hL : l.length = L) (hk : KAt w ka o) (hol : o.length ≤ 1000000) (h : IsL w a cap l) :
    Calls Try.prog 8 #[.slice a L cap, .slice ka o.length kcap] w fun e w' => ∃ a cap n, e = .returned (.slice a L cap) ∧ Hid (Made w o l a cap w' n) := by
  subst hL
  exact (rowSort_any ka kcap o a cap l w hk hol h.at_ h.non h.len h.rows).mono fun _ _ hp => hp.made h.len h.oks
theorem rcmp_same {x y : Hd} (h : x.r = y.r) : M.rcmp x.r y.r = 0 := by rw [h]; exact M.cm_rcmp.self _
set_option maxRecDepth 100000 in
set_option maxHeartbeats 2000000 in
theorem sortedLaw_any (a ka : Option Addr) (cap kcap : Nat) (l : List Hd) (o : List (Int × Bool)) (w : World) (hA : Ins22 w a cap l) (hk : KAt w ka o) (hol : o.length ≤ maxLen) :
    Calls Try.prog 3 #[.slice a l.length cap, .slice ka o.length kcap] w (Tells w (.bool true)) := by
  have HA := hid hA
  have HK := hid hk
  have hol2 : (o.length : Int) ≤ 9223372036854775807 := by unfold maxLen at hol; omega
  clear hA hk hol
  go_enter Try.func3, Try.ntmps3
  go_upto_region 3 with (first | (go_at_call 6; refine (works_any _).mono ?_; rintro e w1 ⟨rfl, hA⟩; have A1 := hid hA; clear hA))
  by_cases h40 : 40 < o.length
  · have h40z : (40 : Int) < (o.length : Int) := by omega
    go_wp2_with (first | (go_at_call 7; refine (great_of (HA.out.adds A1.out)).mono ?_; rintro e w2 ⟨y, rfl, hw, G1⟩; obtain rfl := hw.symm; cases y))
    all_goals (go_ret; exact ⟨rfl, A1.out⟩)
  have h40z : ¬ (40 : Int) < (o.length : Int) := by omega
  have hol : o.length ≤ 1000000 := by omega
  go_upto_region 5 with (first | (go_at_call 7; refine (great_of (HA.out.adds A1.out)).mono ?_; rintro e w2 ⟨y, rfl, hw, G1⟩; obtain rfl := hw.symm; cases y))
  all_goals try (go_ret; exact ⟨rfl, A1.out⟩)
  have LA := hid ((HA.out.adds A1.out).isl (G1.out trivial))
  have K1 := hid (HK.out.adds A1.out)
  have hll : l.length ≤ 600 := (G1.out trivial).1
  clear G1 hol2
  go_upto_region 6 with (first | (go_at_call 8; refine (rowSort_made ka kcap o a cap l _ rfl K1.out hol LA.out).mono ?_; rintro e w2 ⟨a2, cap2, n2, rfl, M2⟩))
  have L2 := hid M2.out.isl
  have hn2 : n2.length = l.length := M2.out.len
  have A2 := hid M2.out.adds
  go_upto_region 8 with (first
    | (go_at_call 9; refine (bag_at hn2 rfl L2.out (LA.out.adds A2.out)).mono ?_; rintro e w3 ⟨y, rfl, HY⟩; obtain rfl : y = true := HY.out.1.2 M2.out.bag; have A3 := hid HY.out.2; clear HY)
    | (go_at_call 10; refine (rowSorted_at ka kcap o a2 cap2 n2 _ rfl hn2 ((K1.out.adds A2.out).adds A3.out) hol (L2.out.adds A3.out)).mono ?_; rintro e w4 ⟨y, rfl, HY⟩; obtain rfl : y = true := HY.out.1.2 M2.out.srt; have A4 := hid (A3.out.trans HY.out.2); clear HY))
  go_upto_region 9 with (first | (go_at_call 8; refine (rowSort_made ka kcap o a2 cap2 n2 _ hn2 ((K1.out.adds A2.out).adds A4.out) hol (L2.out.adds A4.out)).mono ?_; rintro e w5 ⟨a4, cap4, n4, rfl, M4⟩))
  have L4 := hid M4.out.isl
  have hn4 : n4.length = l.length := M4.out.len.trans hn2
  have A5 := hid (A4.out.trans M4.out.adds)
  have SM := hid (show ∀ i : Nat, i < l.length → n4[i]!.r = n2[i]!.r from fun i hi => M4.out.same M2.out.srt i (by omega))
  go_upto_region 10 with fail
  go_loopw [43] (fun iv wr => ∃ i : Nat, iv = .int .i64 (i : Int) ∧ i ≤ l.length ∧ Hid (Adds w5 wr)) (fun iv _ => l.length - (intOf iv).toNat)
  case atStart => exact ⟨0, rfl, Nat.zero_le _, Touch.refl _ _⟩
  case round =>
    obtain ⟨i, rfl, hi, HI⟩ := hrel
    by_cases hlt : i < l.length
    · have hltz : (i : Int) < (l.length : Int) := by omega
      obtain ⟨x, hx⟩ : ∃ x, n4[i]? = some x := ⟨n4[i]'(by omega), List.getElem?_eq_getElem _⟩
      obtain ⟨y, hy⟩ : ∃ y, n2[i]? = some y := ⟨n2[i]'(by omega), List.getElem?_eq_getElem _⟩
      obtain ⟨b4, q4, e4, hu⟩ := (L4.out.at_.adds HI.out).get hx
      obtain ⟨b2, q2, e2, hv⟩ := ((L2.out.at_.adds A5.out).adds HI.out).get hy
      have exy : x.r = y.r := by
        have := SM.out i hlt
        simp only [List.getElem!_eq_getElem?_getD, hx, hy, Option.getD_some] at this
        exact this
      have HC : Hid (∀ w', Adds wr w' → Calls Try.prog 11 #[.slice x.a x.r.length x.cap, .slice y.a y.r.length y.cap] w' (Tells w' (.int .i64 0))) := hid (fun w' hA => row_cmp_z x y w' 0 (rcmp_same exy) ((L4.out.rows x (List.mem_of_getElem? hx)).adds (HI.out.trans hA)) ((L2.out.rows y (List.mem_of_getElem? hy)).adds (A5.out.trans (HI.out.trans hA))))
      subst e4
      subst e2
      have HX := hid hu
      have HY := hid hv
      clear hx hy hu hv exy
      go_upto_region 12 with fail
      refine H_begin (S := fun w' => Adds wr w') (by kernel_rfl) ?_
      have hS : Adds wr wr.drew := (Touch.refl _ wr).drew
      refine H_put (i := 0) 46 (v := .slice (some ⟨b4, q4, none⟩) l.length cap4) rfl rfl (by kernel_rfl) (by kernel_rfl) (by kernel_rfl) (fun _ _ _ h => h) (Or.inl ⟨by rfl, fun w' hw' => ?_⟩) hS ?_
      · go_simp
      simp only [Act.put, List.setIfInBounds_toArray, List.set_cons_zero, List.set_cons_succ]
      refine H_put (i := 1) 47 (v := .int .i64 (i : Int)) rfl rfl (by kernel_rfl) (by kernel_rfl) (by kernel_rfl) (fun _ _ _ h => h) (Or.inl ⟨by rfl, fun w' hw' => ?_⟩) hS ?_
      · go_simp
      simp only [Act.put, List.setIfInBounds_toArray, List.set_cons_zero, List.set_cons_succ]
      refine H_put (i := 2) 48 (v := .pointer (some ⟨b4, q4 + i, none⟩)) rfl rfl (by kernel_rfl) (by kernel_rfl) (by kernel_rfl) (fun _ _ _ h => h) (Or.inl ⟨by rfl, fun w' hw' => ?_⟩) hS ?_
      · go_simp
      simp only [Act.put, List.setIfInBounds_toArray, List.set_cons_zero, List.set_cons_succ]
      refine H_put (i := 3) 49 (v := .slice x.a x.r.length x.cap) rfl rfl (by kernel_rfl) (by kernel_rfl) (by kernel_rfl) (fun _ _ _ h => h) (Or.inl ⟨by rfl, fun w' hw' => ?_⟩) hS ?_
      · have c0 := HX.out w' hw'; go_simp
      simp only [Act.put, List.setIfInBounds_toArray, List.set_cons_zero, List.set_cons_succ]
      refine H_put (i := 4) 50 (v := .slice (some ⟨b2, q2, none⟩) l.length cap2) rfl rfl (by kernel_rfl) (by kernel_rfl) (by kernel_rfl) (fun _ _ _ h => h) (Or.inl ⟨by rfl, fun w' hw' => ?_⟩) hS ?_
      · go_simp
      simp only [Act.put, List.setIfInBounds_toArray, List.set_cons_zero, List.set_cons_succ]
      refine H_put (i := 5) 51 (v := .int .i64 (i : Int)) rfl rfl (by kernel_rfl) (by kernel_rfl) (by kernel_rfl) (fun _ _ _ h => h) (Or.inl ⟨by rfl, fun w' hw' => ?_⟩) hS ?_
      · go_simp
      simp only [Act.put, List.setIfInBounds_toArray, List.set_cons_zero, List.set_cons_succ]
      refine H_put (i := 6) 52 (v := .pointer (some ⟨b2, q2 + i, none⟩)) rfl rfl (by kernel_rfl) (by kernel_rfl) (by kernel_rfl) (fun _ _ _ h => h) (Or.inl ⟨by rfl, fun w' hw' => ?_⟩) hS ?_
      · go_simp
      simp only [Act.put, List.setIfInBounds_toArray, List.set_cons_zero, List.set_cons_succ]
      refine H_put (i := 7) 53 (v := .slice y.a y.r.length y.cap) rfl rfl (by kernel_rfl) (by kernel_rfl) (by kernel_rfl) (fun _ _ _ h => h) (Or.inl ⟨by rfl, fun w' hw' => ?_⟩) hS ?_
      · have c0 := HY.out w' hw'; go_simp
      simp only [Act.put, List.setIfInBounds_toArray, List.set_cons_zero, List.set_cons_succ]
      refine H_call (i := 8) 54 11 #[.slice x.a x.r.length x.cap, .slice y.a y.r.length y.cap] (R := Tells wr.drew (.int .i64 0)) (by kernel_rfl) rfl rfl (by rfl) (by go_simp) ?_ ?_
      · exact HC.out _ hS
      rintro e wa ⟨rfl, hwa⟩
      have Awa := hid (Touch.trans hS hwa)
      refine ⟨_, fun w' => Adds wa w', rfl, Touch.refl _ _, fun w' h => Awa.out.trans h, ?_⟩
      clear hS
      have hS : Adds wa wa := Touch.refl _ _
      simp only [Act.put, List.setIfInBounds_toArray, List.set_cons_zero, List.set_cons_succ]
      refine H_put (i := 9) 55 (v := .bool false) rfl rfl (by kernel_rfl) (by kernel_rfl) (by kernel_rfl) (fun _ _ _ h => h) (Or.inl ⟨by rfl, fun w' hw' => ?_⟩) hS ?_
      · go_simp
      simp only [Act.put, List.setIfInBounds_toArray, List.set_cons_zero, List.set_cons_succ]
      refine wpAnyH_done (by kernel_rfl) ?_ _
      go_wp2_with fail
      go_roundw
      case rel => exact ⟨i + 1, by go_num, by omega, HI.out.trans Awa.out⟩
      case measure => simp [intOf]; omega
    · have hltz : ¬ (i : Int) < (l.length : Int) := by omega
      have B0 := hid (show Adds w2 wr from A5.out.trans HI.out)
      clear HI
      go_upto_region 16 with fail
      generalize wr = w6 at *
      go_loopw [59] (fun iv wr => ∃ i : Nat, iv = .int .i64 (i : Int) ∧ i ≤ l.length ∧ Hid (Adds w6 wr)) (fun iv _ => l.length - (intOf iv).toNat)
      case atStart => exact ⟨0, rfl, Nat.zero_le _, Touch.refl _ _⟩
      case round =>
        obtain ⟨i, rfl, hi, HI⟩ := hrel
        by_cases hlt : i < l.length
        · have hltz : (i : Int) < (l.length : Int) := by omega
          obtain ⟨x, hx⟩ : ∃ x, n2[i]? = some x := ⟨n2[i]'(by omega), List.getElem?_eq_getElem _⟩
          obtain ⟨y2, hy⟩ : ∃ y, l[i]? = some y := ⟨l[i], List.getElem?_eq_getElem hlt⟩
          have B1 : Adds w2 wr := B0.out.trans HI.out
          have B2 : Adds w1 wr := A2.out.trans B1
          obtain ⟨b2, q2, e2, hu⟩ := (L2.out.at_.adds B1).get hx
          obtain ⟨b0, q0, e0, hv⟩ := (LA.out.at_.adds B2).get hy
          have HSO0 := hid (fun (w' : World) (hA : Adds wr w') => rowSorted_at ka kcap o a cap l w' rfl rfl ((K1.out.adds B2).adds hA) hol ((LA.out.adds B2).adds hA))
          have HC0 : Hid (M.Srt (ltc (M.bycmp o)) 0 l.length l → ∀ w', Adds wr w' → Calls Try.prog 11 #[.slice x.a x.r.length x.cap, .slice y2.a y2.r.length y2.cap] w' (Tells w' (.int .i64 0))) := hid (fun hs w' hA => row_cmp_z x y2 w' 0 (rcmp_same (by
            have := M2.out.same hs i hlt
            simp only [List.getElem!_eq_getElem?_getD, hx, hy, Option.getD_some] at this
            exact this)) ((L2.out.rows x (List.mem_of_getElem? hx)).adds (B1.trans hA)) ((LA.out.rows y2 (List.mem_of_getElem? hy)).adds (B2.trans hA)))
          subst e2
          subst e0
          have HSO := hid HSO0.out
          have HX := hid hu
          have HY := hid hv
          clear hx hy hu hv B1 B2 HSO0
          go_upto_region 18 with fail
          refine H_begin (S := fun w' => Adds wr w') (by kernel_rfl) ?_
          have hS : Adds wr wr.drew := (Touch.refl _ wr).drew
          refine H_put (i := 0) 62 (v := .slice (some ⟨b0, q0, none⟩) l.length cap) rfl rfl (by kernel_rfl) (by kernel_rfl) (by kernel_rfl) (fun _ _ _ h => h) (Or.inl ⟨by rfl, fun w' hw' => ?_⟩) hS ?_
          · go_simp
          simp only [Act.put, List.setIfInBounds_toArray, List.set_cons_zero, List.set_cons_succ]
          refine H_put (i := 1) 63 (v := .slice ka o.length kcap) rfl rfl (by kernel_rfl) (by kernel_rfl) (by kernel_rfl) (fun _ _ _ h => h) (Or.inl ⟨by rfl, fun w' hw' => ?_⟩) hS ?_
          · go_simp
          simp only [Act.put, List.setIfInBounds_toArray, List.set_cons_zero, List.set_cons_succ]
          refine H_call (i := 2) 64 10 #[.slice (some ⟨b0, q0, none⟩) l.length cap, .slice ka o.length kcap] (R := PIs wr.drew (M.bycmp o) l) (by kernel_rfl) rfl rfl (by rfl) (by go_simp) ?_ ?_
          · exact HSO.out _ hS
          rintro e wa ⟨y, rfl, HYY⟩
          have Awa := hid (Touch.trans hS HYY.out.2)
          refine ⟨_, fun w' => Adds wa w', rfl, Touch.refl _ _, fun w' h => Awa.out.trans h, ?_⟩
          clear hS
          have hS : Adds wa wa := Touch.refl _ _
          simp only [Act.put, List.setIfInBounds_toArray, List.set_cons_zero, List.set_cons_succ]
          cases y with
          | true =>
            have HC := hid (fun (_ : True = True) => HC0.out (HYY.out.1.1 rfl))
            refine H_put (i := 3) 65 (v := .bool true) rfl rfl (by kernel_rfl) (by kernel_rfl) (by kernel_rfl) (fun _ _ _ h => h) (Or.inl ⟨by rfl, fun w' hw' => ?_⟩) hS ?_
            · go_simp
            simp only [Act.put, List.setIfInBounds_toArray, List.set_cons_zero, List.set_cons_succ]
            refine H_put (i := 4) 66 (v := .slice (some ⟨b2, q2, none⟩) l.length cap2) rfl rfl (by kernel_rfl) (by kernel_rfl) (by kernel_rfl) (fun _ _ _ h => h) (Or.inl ⟨by rfl, fun w' hw' => ?_⟩) hS ?_
            · go_simp
            simp only [Act.put, List.setIfInBounds_toArray, List.set_cons_zero, List.set_cons_succ]
            refine H_put (i := 5) 67 (v := .int .i64 (i : Int)) rfl rfl (by kernel_rfl) (by kernel_rfl) (by kernel_rfl) (fun _ _ _ h => h) (Or.inl ⟨by rfl, fun w' hw' => ?_⟩) hS ?_
            · go_simp
            simp only [Act.put, List.setIfInBounds_toArray, List.set_cons_zero, List.set_cons_succ]
            refine H_put (i := 6) 68 (v := .pointer (some ⟨b2, q2 + i, none⟩)) rfl rfl (by kernel_rfl) (by kernel_rfl) (by kernel_rfl) (fun _ _ _ h => h) (Or.inl ⟨by rfl, fun w' hw' => ?_⟩) hS ?_
            · go_simp
            simp only [Act.put, List.setIfInBounds_toArray, List.set_cons_zero, List.set_cons_succ]
            refine H_put (i := 7) 69 (v := .slice x.a x.r.length x.cap) rfl rfl (by kernel_rfl) (by kernel_rfl) (by kernel_rfl) (fun _ _ _ h => h) (Or.inl ⟨by rfl, fun w' hw' => ?_⟩) hS ?_
            · have c0 := HX.out w' (Awa.out.trans hw'); go_simp
            simp only [Act.put, List.setIfInBounds_toArray, List.set_cons_zero, List.set_cons_succ]
            refine H_put (i := 8) 70 (v := .slice (some ⟨b0, q0, none⟩) l.length cap) rfl rfl (by kernel_rfl) (by kernel_rfl) (by kernel_rfl) (fun _ _ _ h => h) (Or.inl ⟨by rfl, fun w' hw' => ?_⟩) hS ?_
            · go_simp
            simp only [Act.put, List.setIfInBounds_toArray, List.set_cons_zero, List.set_cons_succ]
            refine H_put (i := 9) 71 (v := .int .i64 (i : Int)) rfl rfl (by kernel_rfl) (by kernel_rfl) (by kernel_rfl) (fun _ _ _ h => h) (Or.inl ⟨by rfl, fun w' hw' => ?_⟩) hS ?_
            · go_simp
            simp only [Act.put, List.setIfInBounds_toArray, List.set_cons_zero, List.set_cons_succ]
            refine H_put (i := 10) 72 (v := .pointer (some ⟨b0, q0 + i, none⟩)) rfl rfl (by kernel_rfl) (by kernel_rfl) (by kernel_rfl) (fun _ _ _ h => h) (Or.inl ⟨by rfl, fun w' hw' => ?_⟩) hS ?_
            · go_simp
            simp only [Act.put, List.setIfInBounds_toArray, List.set_cons_zero, List.set_cons_succ]
            refine H_put (i := 11) 73 (v := .slice y2.a y2.r.length y2.cap) rfl rfl (by kernel_rfl) (by kernel_rfl) (by kernel_rfl) (fun _ _ _ h => h) (Or.inl ⟨by rfl, fun w' hw' => ?_⟩) hS ?_
            · have c0 := HY.out w' (Awa.out.trans hw'); go_simp
            simp only [Act.put, List.setIfInBounds_toArray, List.set_cons_zero, List.set_cons_succ]
            refine H_call (i := 12) 74 11 #[.slice x.a x.r.length x.cap, .slice y2.a y2.r.length y2.cap] (R := Tells wa (.int .i64 0)) (by kernel_rfl) rfl rfl (by rfl) (by go_simp) ?_ ?_
            · exact HC.out rfl _ Awa.out
            rintro e wb ⟨rfl, hwb⟩
            have Awb := hid (Touch.trans Awa.out hwb)
            refine ⟨_, fun w' => Adds wb w', rfl, Touch.refl _ _, fun w' h => hwb.trans h, ?_⟩
            clear hS
            have hS : Adds wb wb := Touch.refl _ _
            simp only [Act.put, List.setIfInBounds_toArray, List.set_cons_zero, List.set_cons_succ]
            refine H_put (i := 13) 75 (v := .bool false) rfl rfl (by kernel_rfl) (by kernel_rfl) (by kernel_rfl) (fun _ _ _ h => h) (Or.inl ⟨by rfl, fun w' hw' => ?_⟩) hS ?_
            · go_simp
            simp only [Act.put, List.setIfInBounds_toArray, List.set_cons_zero, List.set_cons_succ]
            refine H_put (i := 14) 76 (v := .bool false) rfl rfl (by kernel_rfl) (by kernel_rfl) (by kernel_rfl) (fun _ _ _ h => h) (Or.inl ⟨by rfl, fun w' hw' => ?_⟩) hS ?_
            · go_simp
            simp only [Act.put, List.setIfInBounds_toArray, List.set_cons_zero, List.set_cons_succ]
            refine wpAnyH_done (by kernel_rfl) ?_ _
            go_wp2_with fail
            go_roundw
            case rel => exact ⟨i + 1, by go_num, by omega, HI.out.trans Awb.out⟩
            case measure => simp [intOf]; omega
          | false =>
            refine H_put (i := 3) 65 (v := .bool false) rfl rfl (by kernel_rfl) (by kernel_rfl) (by kernel_rfl) (fun _ _ _ h => h) (Or.inl ⟨by rfl, fun w' hw' => ?_⟩) hS ?_
            · go_simp
            simp only [Act.put, List.setIfInBounds_toArray, List.set_cons_zero, List.set_cons_succ]
            refine H_put (i := 4) 66 (v := undef) rfl rfl (by kernel_rfl) (by kernel_rfl) (by kernel_rfl) (fun _ _ _ h => h) (Or.inr ⟨by rfl, rfl⟩) hS ?_
            simp only [Act.put, List.setIfInBounds_toArray, List.set_cons_zero, List.set_cons_succ]
            refine H_put (i := 5) 67 (v := undef) rfl rfl (by kernel_rfl) (by kernel_rfl) (by kernel_rfl) (fun _ _ _ h => h) (Or.inr ⟨by rfl, rfl⟩) hS ?_
            simp only [Act.put, List.setIfInBounds_toArray, List.set_cons_zero, List.set_cons_succ]
            refine H_put (i := 6) 68 (v := undef) rfl rfl (by kernel_rfl) (by kernel_rfl) (by kernel_rfl) (fun _ _ _ h => h) (Or.inr ⟨by rfl, rfl⟩) hS ?_
            simp only [Act.put, List.setIfInBounds_toArray, List.set_cons_zero, List.set_cons_succ]
            refine H_put (i := 7) 69 (v := undef) rfl rfl (by kernel_rfl) (by kernel_rfl) (by kernel_rfl) (fun _ _ _ h => h) (Or.inr ⟨by rfl, rfl⟩) hS ?_
            simp only [Act.put, List.setIfInBounds_toArray, List.set_cons_zero, List.set_cons_succ]
            refine H_put (i := 8) 70 (v := undef) rfl rfl (by kernel_rfl) (by kernel_rfl) (by kernel_rfl) (fun _ _ _ h => h) (Or.inr ⟨by rfl, rfl⟩) hS ?_
            simp only [Act.put, List.setIfInBounds_toArray, List.set_cons_zero, List.set_cons_succ]
            refine H_put (i := 9) 71 (v := undef) rfl rfl (by kernel_rfl) (by kernel_rfl) (by kernel_rfl) (fun _ _ _ h => h) (Or.inr ⟨by rfl, rfl⟩) hS ?_
            simp only [Act.put, List.setIfInBounds_toArray, List.set_cons_zero, List.set_cons_succ]
            refine H_put (i := 10) 72 (v := undef) rfl rfl (by kernel_rfl) (by kernel_rfl) (by kernel_rfl) (fun _ _ _ h => h) (Or.inr ⟨by rfl, rfl⟩) hS ?_
            simp only [Act.put, List.setIfInBounds_toArray, List.set_cons_zero, List.set_cons_succ]
            refine H_put (i := 11) 73 (v := undef) rfl rfl (by kernel_rfl) (by kernel_rfl) (by kernel_rfl) (fun _ _ _ h => h) (Or.inr ⟨by rfl, rfl⟩) hS ?_
            simp only [Act.put, List.setIfInBounds_toArray, List.set_cons_zero, List.set_cons_succ]
            refine H_put (i := 12) 74 (v := undef) rfl rfl (by kernel_rfl) (by kernel_rfl) (by kernel_rfl) (fun _ _ _ h => h) (Or.inr ⟨by rfl, rfl⟩) hS ?_
            simp only [Act.put, List.setIfInBounds_toArray, List.set_cons_zero, List.set_cons_succ]
            refine H_put (i := 13) 75 (v := undef) rfl rfl (by kernel_rfl) (by kernel_rfl) (by kernel_rfl) (fun _ _ _ h => h) (Or.inr ⟨by rfl, rfl⟩) hS ?_
            simp only [Act.put, List.setIfInBounds_toArray, List.set_cons_zero, List.set_cons_succ]
            refine H_put (i := 14) 76 (v := .bool false) rfl rfl (by kernel_rfl) (by kernel_rfl) (by kernel_rfl) (fun _ _ _ h => h) (Or.inl ⟨by rfl, fun w' hw' => ?_⟩) hS ?_
            · go_simp
            simp only [Act.put, List.setIfInBounds_toArray, List.set_cons_zero, List.set_cons_succ]
            refine wpAnyH_done (by kernel_rfl) ?_ _
            go_wp2_with fail
            go_roundw
            case rel => exact ⟨i + 1, by go_num, by omega, HI.out.trans Awa.out⟩
            case measure => simp [intOf]; omega
        · have hltz : ¬ (i : Int) < (l.length : Int) := by omega
          go_wp2_with fail
          go_ret
          exact ⟨rfl, ((A1.out.trans A2.out).trans B0.out).trans HI.out⟩
end Go.Proofs.Ytkkmbpcmkhikkaa
