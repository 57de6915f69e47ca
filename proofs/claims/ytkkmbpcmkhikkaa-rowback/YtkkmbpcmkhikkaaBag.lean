/- Bags compared; a bag in another one. -/
import Derived.Test.YtkkmbpcmkhikkaaSort
import Derived.Test.YtkkmbpcmkhikkaaBagM
import Derived.Deep.CutRange
import Derived.Deep.DeepCutAuto
namespace Go.Proofs.Ytkkmbpcmkhikkaa
open Go.RowKit

/-- What a call leaves that tells whether something is so. -/
def PB (w : World) (P : Prop) (e : Ending) (w' : World) : Prop := ∃ y : Bool, e = .returned (.bool y) ∧ Hid ((y = true ↔ P) ∧ Adds w w')
/-- A list of rows that came in, or was made. -/
structure IsL (w : World) (a : Option Addr) (cap : Nat) (l : List Hd) : Prop where
  at_ : HAt w a l
  non : a = none → cap = 0
  len : l.length ≤ 1000000
  rows : ∀ x ∈ l, IsRow w x
  oks : Oks l
theorem IsL.adds {w w' : World} {a : Option Addr} {cap : Nat} {l : List Hd} (h : IsL w a cap l) (hA : Adds w w') : IsL w' a cap l := ⟨h.at_.adds hA, h.non, h.len, fun x hx => (h.rows x hx).adds hA, h.oks⟩
theorem dat_at {w : World} {g : Nat} {m : List Hd} (h : Dat w g m) : HAt w (some ⟨g, 0, none⟩) m := by
  intro j x hj
  obtain ⟨hlt, e⟩ := List.getElem?_eq_some_iff.1 hj
  refine ⟨g, 0, rfl, ?_⟩
  have := h.cell j hlt
  rw [getElem!_pos m j hlt, e] at this
  rw [Nat.zero_add]; exact this
theorem New.isl {w w' : World} {a : Option Addr} {cap : Nat} {m : List Hd} (h : New w a cap w' m) (hl : m.length ≤ 1000000) (ho : Oks m) : IsL w' a cap m := by
  rcases h with ⟨rfl, rfl, rfl⟩ | ⟨g, rfl, _, _, _, hD⟩
  · exact ⟨HAt.nil _ _, fun _ => rfl, hl, fun x hx => (by cases hx), ho⟩
  · exact ⟨dat_at hD, fun e => (by cases e), hl, hD.rows, ho⟩
theorem New.cap {w w' : World} {a : Option Addr} {cap : Nat} {m : List Hd} (h : New w a cap w' m) : m.length ≤ cap := by
  rcases h with ⟨_, rfl, rfl⟩ | ⟨_, _, _, _, h, _⟩
  · exact Nat.le_refl _
  · exact h
/-- Sorted by Cmp. -/
theorem sortedC {w : World} {a : Option Addr} {cap : Nat} {l : List Hd} (h : IsL w a cap l) : Calls Try.prog 20 #[.slice a l.length cap, .func (.func 11) #[] #[]] w (PSrt w M.rcmp l) :=
  sorted_any 11 #[] M.rcmp (ord_of M.cm_rcmp) a cap l w h.at_ h.non h.len h.rows (cmps_cmp w)
theorem compare_at {w : World} {a a' : Option Addr} {cap cap' L L' : Nat} {l l' : List Hd} (hL : l.length = L) (hL' : l'.length = L') (h : IsL w a cap l) (h' : IsL w a' cap' l') : Calls Try.prog 23 #[.slice a L cap, .slice a' L' cap', .func (.func 11) #[] #[]] w (Tells w (.int .i64 (M.lcmp (fun x y => M.rcmp x.r y.r) l l'))) := by
  subst hL hL'
  exact compare_r a a' cap cap' l l' w h.at_ h'.at_ h.len h'.len h.rows h'.rows
set_option maxHeartbeats 1000000 in
theorem bag_any {w : World} {a a' : Option Addr} {cap cap' : Nat} {l l' : List Hd} (h : IsL w a cap l) (h' : IsL w a' cap' l') : Calls Try.prog 9 #[.slice a l.length cap, .slice a' l'.length cap'] w (PB w ((bag l).Perm (bag l'))) := by
  have H := hid h
  have H' := hid h'
  clear h h'
  go_enter Try.func9, Try.ntmps9
  go_wp2_with (first
    | (go_at_call 20; have S1 := S1; refine (sortedC (H'.out.adds S1.out)).mono ?_; rintro e w2 ⟨a2, cap2, rfl, R2⟩)
    | (go_at_call 20; refine (sortedC H.out).mono ?_; rintro e w1 ⟨a1, cap1, rfl, R1⟩; have S1 := hid (show Adds w w1 by obtain ⟨_, _, _, h3⟩ := R1.out; exact h3); obtain ⟨m1, Q1⟩ : ∃ m, Hid (M.Mrg (ltc M.rcmp) 0 l.length l m ∧ IsL w1 a1 cap1 m) := by obtain ⟨m, h1, h2, _⟩ := R1.out; exact ⟨m, h1, h2.isl (by rw [h1.mv.len]; exact H.out.len) (H.out.oks.perm h1.mv.perm)⟩)
    | (go_at_call 23; obtain ⟨m2, Q2⟩ : ∃ m, Hid (M.Mrg (ltc M.rcmp) 0 l'.length l' m ∧ IsL w2 a2 cap2 m ∧ Adds w1 w2) := by obtain ⟨m, h1, h2, h3⟩ := R2.out; exact ⟨m, h1, h2.isl (by rw [h1.mv.len]; exact H'.out.len) (H'.out.oks.perm h1.mv.perm), h3⟩
       refine (compare_at Q1.out.1.mv.len Q2.out.1.mv.len (Q1.out.2.adds Q2.out.2.2) Q2.out.2.1).mono ?_; rintro e w3 ⟨rfl, hA3⟩; have A3 := hid hA3; clear hA3))
  go_ret
  refine ⟨_, rfl, ?_, (S1.out.trans Q2.out.2.2).trans A3.out⟩
  rw [beq_iff_eq]
  exact bag_same Q1.out.1 Q2.out.1 H.out.oks H'.out.oks
/-- What the search among rows leaves. -/
def PBs (w : World) (l : List Hd) (t : Hd) (e : Ending) (w' : World) : Prop := ∃ (i : Nat) (f : Bool), e = .returned (.tuple #[.int .i64 (i : Int), .bool f]) ∧ Hid (Found l t i f ∧ Adds w w')
theorem row_cmp_z (x y : Hd) (w : World) (z : Int) (hz : M.rcmp x.r y.r = z) (hx : IsRow w x) (hy : IsRow w y) : Calls Try.prog 11 #[.slice x.a x.r.length x.cap, .slice y.a y.r.length y.cap] w (Tells w (.int .i64 z)) := by
  subst hz
  exact row_cmp x y w hx hy
set_option maxRecDepth 100000 in
set_option maxHeartbeats 2000000 in
theorem search_any {w : World} {a : Option Addr} {cap : Nat} {l : List Hd} {t : Hd} (h : IsL w a cap l) (ht : IsRow w t) (hs : M.Srt (ltc M.rcmp) 0 l.length l) : Calls Try.prog 27 #[.slice a l.length cap, .slice t.a t.r.length t.cap, .func (.func 11) #[] #[]] w (PBs w l t) := by
  have H := hid h
  have HT := hid ht
  have hl := h.len
  have HM := hid (show ∀ q r, 0 ≤ q → q < r → r < l.length → ltc M.rcmp l[r]! t = true → ltc M.rcmp l[q]! t = true from M.mono_up (ord_of M.cm_rcmp) t hs)
  clear h ht hs
  go_enter Try.func27, Try.ntmps27
  go_wp2_with fail
  go_loopw [9, 10] (fun iv jv wr => ∃ (i j : Nat), iv = .int .i64 (i : Int) ∧ jv = .int .i64 (j : Int) ∧ i ≤ j ∧ j ≤ l.length ∧ Hid (M.Srch (fun k => ltc M.rcmp l[k]! t) 0 l.length i j ∧ Adds w wr)) (fun iv jv _ => (intOf jv).toNat - (intOf iv).toNat)
  case atStart => exact ⟨0, l.length, rfl, rfl, by omega, by omega, M.Srch.start (by omega), Touch.refl _ _⟩
  case round =>
    obtain ⟨i, j, rfl, rfl, hij, hjb, HI⟩ := hrel
    by_cases hlt : i < j
    · have hltz : (i : Int) < (j : Int) := by omega
      obtain ⟨h, hh⟩ : ∃ h, h = (i + j) / 2 := ⟨_, rfl⟩
      have eh : ((i : Int) + (j : Int)) / 2 = (h : Int) := by omega
      have hh1 : i ≤ h := by omega
      have hh2 : h < j := by omega
      clear hh
      have h3 : (h : Int) < (l.length : Int) := by omega
      obtain ⟨x, hx⟩ : ∃ x, l[h]? = some x := ⟨l[h]'(by omega), List.getElem?_eq_getElem _⟩
      obtain ⟨b, o, ea, hu⟩ := (H.out.at_.adds HI.out.2).get hx
      subst ea
      have c0 := hu wr (Touch.refl _ _)
      obtain ⟨z, hz⟩ : ∃ z, M.rcmp x.r t.r = z := ⟨_, rfl⟩
      have HZ := hid (show ltc M.rcmp l[h]! t = decide (z < 0) by
        simp only [List.getElem!_eq_getElem?_getD, hx, Option.getD_some]
        unfold ltc; rw [hz])
      have HC := hid (row_cmp_z x t wr z hz ((H.out.rows x (List.mem_of_getElem? hx)).adds HI.out.2) (HT.out.adds HI.out.2))
      clear hx hu hz
      by_cases hz0 : z < 0
      · go_wp2_with (first | (go_at_call 11; refine HC.out.mono ?_; rintro e wa ⟨rfl, hA⟩; have Awa := hid hA; clear hA))
        go_roundw
        case rel => exact ⟨h + 1, j, by go_num, rfl, by omega, hjb, HI.out.1.yes hh1 hh2 (by rw [HZ.out]; simpa using hz0) HM.out, HI.out.2.trans Awa.out⟩
        case measure => simp [intOf]; omega
      · go_wp2_with (first | (go_at_call 11; refine HC.out.mono ?_; rintro e wa ⟨rfl, hA⟩; have Awa := hid hA; clear hA))
        go_roundw
        case rel => exact ⟨i, h, rfl, rfl, hh1, by omega, HI.out.1.no hh1 hh2 (by rw [HZ.out]; simpa using hz0) HM.out, HI.out.2.trans Awa.out⟩
        case measure => simp [intOf]; omega
    · have hltz : ¬ (i : Int) < (j : Int) := by omega
      obtain rfl : i = j := by omega
      have HF := hid (show (∀ k, k < i → M.rcmp l[k]!.r t.r < 0) ∧ (∀ k, i ≤ k → k < l.length → 0 ≤ M.rcmp l[k]!.r t.r) from
        ⟨fun k hk => of_decide_eq_true (HI.out.1.lo k (Nat.zero_le _) hk), fun k h1 h2 => by have := of_decide_eq_false (HI.out.1.hi k h1 h2); omega⟩)
      by_cases hn : i < l.length
      · have h3 : (i : Int) < (l.length : Int) := by omega
        obtain ⟨x, hx⟩ : ∃ x, l[i]? = some x := ⟨l[i]'(by omega), List.getElem?_eq_getElem _⟩
        obtain ⟨b, o, ea, hu⟩ := (H.out.at_.adds HI.out.2).get hx
        subst ea
        have c0 := hu wr (Touch.refl _ _)
        obtain ⟨z, hz⟩ : ∃ z, M.rcmp x.r t.r = z := ⟨_, rfl⟩
        have HZ := hid (show M.rcmp l[i]!.r t.r = z by
          simp only [List.getElem!_eq_getElem?_getD, hx, Option.getD_some]
          exact hz)
        have HC := hid (row_cmp_z x t wr z hz ((H.out.rows x (List.mem_of_getElem? hx)).adds HI.out.2) (HT.out.adds HI.out.2))
        clear hx hu hz
        by_cases z0 : z = 0
        · subst z0
          go_wp2_with (first | (go_at_call 11; refine HC.out.mono ?_; rintro e wa ⟨rfl, hA⟩; have Awa := hid hA; clear hA))
          go_ret2
          exact ⟨i, true, rfl, ⟨by omega, HF.out.1, HF.out.2, ⟨fun _ => ⟨hn, HZ.out⟩, fun _ => rfl⟩⟩, HI.out.2.trans Awa.out⟩
        · have z1 : (z == 0) = false := by simpa using z0
          go_wp2_with (first | (go_at_call 11; refine HC.out.mono ?_; rintro e wa ⟨rfl, hA⟩; have Awa := hid hA; clear hA))
          go_ret2
          exact ⟨i, false, by rw [← z1]; rfl, ⟨by omega, HF.out.1, HF.out.2, ⟨fun h => (by cases h), fun h => absurd (HZ.out.symm.trans h.2) z0⟩⟩, HI.out.2.trans Awa.out⟩
      · have h3 : ¬ (i : Int) < (l.length : Int) := by omega
        go_wp2_with fail
        go_ret2
        exact ⟨i, false, rfl, ⟨by omega, HF.out.1, HF.out.2, ⟨fun h => (by cases h), fun h => absurd h.1 hn⟩⟩, HI.out.2⟩
/-- What is cut off the beginning of a list of rows. -/
theorem HAt.suf {w : World} {a : Option Addr} {l : List Hd} {n cap : Nat} (h : HAt w a l) (hc : l.length ≤ cap) : HAt w (if cap = n then a else a.map (·.add n)) (l.drop n) := by
  intro j x hj
  rw [List.getElem?_drop] at hj
  obtain ⟨b, o, rfl, hcell⟩ := h _ x hj
  have := (List.getElem?_eq_some_iff.1 hj).1
  refine ⟨b, o + n, by rw [if_neg (by omega)]; show some (Addr.add ⟨b, o, none⟩ n) = _; rw [Addr.add_mid], ?_⟩
  rw [Nat.add_assoc]; exact hcell
theorem IsL.suf {w : World} {a : Option Addr} {l : List Hd} {n cap : Nat} (h : IsL w a cap l) (hc : l.length ≤ cap) : IsL w (if cap = n then a else a.map (·.add n)) (cap - n) (l.drop n) :=
  ⟨h.at_.suf hc, fun e => (by
    split at e
    · rename_i e2; omega
    · cases a with
      | none => have := h.non rfl; omega
      | some ad => simp at e), by rw [List.length_drop]; have := h.len; omega, fun x hx => h.rows x (List.mem_of_mem_drop hx), fun x hx => h.oks x (List.mem_of_mem_drop hx)⟩
theorem search_at {w : World} {a : Option Addr} {cap L : Nat} {l : List Hd} {t : Hd} (hL : l.length = L) (h : IsL w a cap l) (ht : IsRow w t) (hs : M.Srt (ltc M.rcmp) 0 l.length l) : Calls Try.prog 27 #[.slice a L cap, .slice t.a t.r.length t.cap, .func (.func 11) #[] #[]] w (PBs w l t) := by
  subst hL
  exact search_any h ht hs
set_option maxRecDepth 100000 in
set_option maxHeartbeats 2000000 in
theorem rowWithin_any {w : World} {a a' : Option Addr} {cap cap' : Nat} {l l' : List Hd} (h : IsL w a cap l) (h' : IsL w a' cap' l') : Calls Try.prog 12 #[.slice a l.length cap, .slice a' l'.length cap'] w (PB w (M.Win (bag l) (bag l'))) := by
  have H := hid h
  have H' := hid h'
  clear h h'
  go_enter Try.func12, Try.ntmps12
  go_upto_region 2 with (first
    | (go_at_call 20; refine (sortedC H'.out).mono ?_; rintro e w1 ⟨a1, cap1, rfl, R1⟩; obtain ⟨mb, Q1⟩ : ∃ m, Hid (M.Mrg (ltc M.rcmp) 0 l'.length l' m ∧ IsL w1 a1 cap1 m ∧ m.length ≤ cap1 ∧ Adds w w1) := by obtain ⟨m, h1, h2, h3⟩ := R1.out; exact ⟨m, h1, h2.isl (by rw [h1.mv.len]; exact H'.out.len) (H'.out.oks.perm h1.mv.perm), h2.cap, h3⟩))
  go_upto_region 3 with (first
    | (go_at_call 20; refine (sortedC (H.out.adds Q1.out.2.2.2)).mono ?_; rintro e w2 ⟨a2, cap2, rfl, R2⟩; obtain ⟨ma, Q2⟩ : ∃ m, Hid (M.Mrg (ltc M.rcmp) 0 l.length l m ∧ IsL w2 a2 cap2 m ∧ Adds w1 w2) := by obtain ⟨m, h1, h2, h3⟩ := R2.out; exact ⟨m, h1, h2.isl (by rw [h1.mv.len]; exact H.out.len) (H.out.oks.perm h1.mv.perm), h3⟩))
  have hla : ma.length = l.length := Q2.out.1.mv.len
  have hlb : mb.length = l'.length := Q1.out.1.mv.len
  have HSA := hid (inc_of_srt Q2.out.2.1.oks (by rw [hla]; exact Q2.out.1.srt))
  have hlen := H.out.len
  have hlen' := H'.out.len
  rw [← hla] at hlen ⊢
  rw [← hlb] at hlen' ⊢
  have HW := hid (show M.Win (bag l) (bag l') ↔ M.Win (bag ma) (bag mb) from M.win_perm ((Q2.out.1.mv.perm.map prr).symm) ((Q1.out.1.mv.perm.map prr).symm))
  have HB0 := hid (show IsL w2 a1 cap1 mb ∧ mb.length ≤ cap1 ∧ M.Srt (ltc M.rcmp) 0 mb.length mb from ⟨Q1.out.2.1.adds Q2.out.2.2, Q1.out.2.2.1, by rw [hlb]; exact Q1.out.1.srt⟩)
  have HA0 := hid (show Adds w w2 from Q1.out.2.2.2.trans Q2.out.2.2)
  have HMA := hid Q2.out.2.1
  clear Q1 Q2 R1 R2 hla hlb
  go_loopw [5, 15] (fun lv iv wr => ∃ (i c3 : Nat) (a3 : Option Addr) (B : List Hd), lv = .slice a3 B.length c3 ∧ iv = .int .i64 (i : Int) ∧ i ≤ ma.length ∧ B.length ≤ 1000000 ∧ B.length ≤ c3 ∧ Hid ((M.Win (bag l) (bag l') ↔ M.Win (bag (ma.drop i)) (bag B)) ∧ IsL wr a3 c3 B ∧ M.Srt (ltc M.rcmp) 0 B.length B ∧ Adds w2 wr)) (fun _ iv _ => ma.length - (intOf iv).toNat)
  case atStart => exact ⟨0, cap1, a1, mb, rfl, rfl, Nat.zero_le _, hlen', HB0.out.2.1, HW.out, HB0.out.1, HB0.out.2.2, Touch.refl _ _⟩
  case round =>
    obtain ⟨i, c3, a3, B, rfl, rfl, hi, hB, hBc, HI⟩ := hrel
    clear HB0 HW
    by_cases hlt : i < ma.length
    · have hltz : (i : Int) < (ma.length : Int) := by omega
      obtain ⟨x, hx⟩ : ∃ x, ma[i]? = some x := ⟨ma[i], List.getElem?_eq_getElem hlt⟩
      obtain ⟨b, o, ea, hu⟩ := (HMA.out.at_.adds HI.out.2.2.2).get hx
      subst ea
      have c0 := hu wr (Touch.refl _ _)
      have HXR := hid ((HMA.out.rows x (List.mem_of_getElem? hx)).adds HI.out.2.2.2)
      have HD := hid (show ma.drop i = x :: ma.drop (i + 1) by
        obtain ⟨h1, e1⟩ := List.getElem?_eq_some_iff.1 hx
        rw [List.drop_eq_getElem_cons h1, e1])
      clear hx hu
      go_upto_region 6 with (first | (go_at_call 27; refine (search_at rfl HI.out.2.1 HXR.out HI.out.2.2.1).mono ?_; rintro e w3 ⟨p, f, rfl, HS⟩))
      have oxa : Oks (x :: ma.drop (i + 1)) := by
        rw [← HD.out]
        exact fun y hy => HMA.out.oks y (List.mem_of_mem_drop hy)
      have HOX := hid oxa
      clear oxa
      cases f with
      | false =>
        go_wp2_with fail
        go_ret
        refine ⟨false, rfl, ⟨fun h => (by cases h), fun h => ?_⟩, (HA0.out.trans HI.out.2.2.2).trans HS.out.2⟩
        have h2 := HI.out.1.1 h
        rw [HD.out] at h2
        exact absurd h2 (HS.out.1.none HI.out.2.1.oks HOX.out HI.out.2.2.1)
      | true =>
        have hp : p < B.length := (HS.out.1.is.1 rfl).1
        have hpz : (p : Int) + 1 ≤ (B.length : Int) := by omega
        have hpc : (p : Int) + 1 ≤ (c3 : Int) := by omega
        have HST := hid (HS.out.1.step HI.out.2.1.oks HOX.out (inc_of_srt HI.out.2.1.oks HI.out.2.2.1) (by
          rw [← HD.out, bag_drop]
          exact Inc.drop i HSA.out))
        go_wp2_with fail
        go_roundw
        case rel =>
          refine ⟨i + 1, c3 - (p + 1), (if c3 = p + 1 then a3 else a3.map (·.add (p + 1))), B.drop (p + 1), ?_, by go_num, by omega, by rw [List.length_drop]; omega, by rw [List.length_drop]; omega, ?_, (HI.out.2.1.adds HS.out.2).suf hBc, Srt.drop HI.out.2.2.1 (p + 1), HI.out.2.2.2.trans HS.out.2⟩
          · rw [List.length_drop]
            first | rfl | (simp only []; trace_state; rfl)
          · rw [HI.out.1, HD.out]; exact HST.out
        case measure => simp [intOf]; omega
    · have hltz : ¬ (i : Int) < (ma.length : Int) := by omega
      go_wp2_with fail
      go_ret
      refine ⟨true, rfl, ⟨fun _ => ?_, fun _ => rfl⟩, HA0.out.trans HI.out.2.2.2⟩
      rw [HI.out.1, List.drop_of_length_le (by omega)]
      exact M.win_nil _
end Go.Proofs.Ytkkmbpcmkhikkaa
