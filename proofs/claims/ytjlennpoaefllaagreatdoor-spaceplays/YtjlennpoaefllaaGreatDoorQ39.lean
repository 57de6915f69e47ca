/- Texts put together: GSame, GJz, GOz. -/
import Derived.Test.YtjlennpoaefllaaGreatDoorQ37
import Derived.Test.YtjlennpoaefllaaGreatDoorQ38
import Derived.BigQuiet
/- Both tell the same. -/
namespace Go.Proofs.YtjlennpoaefllaaGreatDoor
open Go.RowKit

set_option maxRecDepth 100000 in
theorem AgX.moreS {X Y : List (Nat × Obj)} {v : Value} {zs : List Int} (h : AgX X v zs) (hY : ∀ x ∈ X, x ∈ Y) : AgX Y v zs := by
  obtain ⟨a, cap, e, hg⟩ := h
  exact ⟨a, cap, e, fun i hi => by obtain ⟨b, o, cs, fr, q1, q2, q3⟩ := hg i hi; exact ⟨b, o, cs, fr, q1, hY _ q2, q3⟩⟩
set_option maxRecDepth 100000 in
theorem tk_state {s : F.Po} {D : dSt} (h1 : G.maps (G.cnt s) = 1) : (G.takenG D (G.maps (G.cnt s)) 0 s []).2.2 = F.getS s D ((0 : Nat) : Int) := by
  rw [h1]
  by_cases hz : G.mapE s D 0 = 0
  · rw [tk_next (r := 0) (k := 0) hz]; rfl
  · rw [tk_bad (r := 0) (k := 0) hz]
/-- What same leaves: the map has been got again and again. -/
def sTwo (s : F.Po) (D : dSt) : F.Po := F.getS (F.getS s D ((0 : Nat) : Int)) D ((0 : Nat) : Int)
set_option maxRecDepth 100000 in
set_option maxHeartbeats 8000000 in
theorem same_any {w0 w : World} {p d q r sp n k c : Nat} {s : F.Po} {D : dSt} (h : PwE w0 w [(sp, SBox p)] p d q r s s D D n k) (hnl : F.Nil s) (hct : s.ct = (c : Int)) (hmo : s.mo ≤ 256) (hc1 : 1 ≤ c) (hc2 : c ≤ 1920) (hn : n + 30 ≤ 1000000) (hk9 : k ≤ 900) (hsz : D.size ≤ 4096) :
    Calls Tryz.prog 17 #[Ptr sp, Ptr q] w (fun e w' => e = .returned (.bool true) ∧ Hid (PwE w0 w' [(sp, SBox p)] p d q r (sTwo s D) (sTwo s D) D D (n + 20) k)) := by
  obtain ⟨hg, hok, hdk, _⟩ := h.facts
  have hcn : G.cnt s = c := by unfold G.cnt; rw [hct]; omega
  have hm1 : G.maps (G.cnt s) = 1 := by rw [hcn]; exact G.maps1 hc1 hc2
  have hs1 := F.get_same s D ((0 : Nat) : Int)
  have e1 := tk_state (D := D) hm1
  have l1 := taken_lenG D (G.maps (G.cnt s)) 0 s []
  have HTk := pw_taken h List.mem_cons_self (by omega) hk9
  have HRt := fun (w1 : World) (X2 : List (Nat × Obj)) (s1 : F.Po) (h1 : PwE w0 w1 X2 p d q r s1 s D D (n + 10) k) => rtakenZ h1 hdk hk9 hok hg hmo hnl hct hc1 hc2
  obtain ⟨R1, hR1⟩ : ∃ R1, R1 = G.takenG D (G.maps (G.cnt s)) 0 s [] := ⟨_, rfl⟩
  rw [← hR1] at e1 l1 HTk HRt
  obtain ⟨zs, z0, s1⟩ := R1
  have e1 : s1 = F.getS s D ((0 : Nat) : Int) := e1
  have hct1 : s1.ct = (c : Int) := by rw [e1, hs1.2.1]; exact hct
  have hmo1 : s1.mo ≤ 256 := by rw [e1, hs1.2.2]; exact hmo
  have hnl1 : F.Nil s1 := by rw [e1]; exact hnl.get D _
  have hg1 : F.Good s1 := by rw [e1]; exact hg.get D _
  have hok1 : POk s1 D := by rw [e1]; exact hok.same hs1 rfl
  have hcn1 : G.cnt s1 = c := by unfold G.cnt; rw [hct1]; omega
  have hm11 : G.maps (G.cnt s1) = 1 := by rw [hcn1]; exact G.maps1 hc1 hc2
  have e2 := tk_state (D := D) hm11
  have l2 := taken_lenG D (G.maps (G.cnt s1)) 0 s1 []
  have HLf := fun (w2 : World) (X2 : List (Nat × Obj)) (h2 : PwE w0 w2 X2 p d q r s1 s1 D D (n + 10) k) (hm : (sp, SBox p) ∈ X2) => pw_left h2 hm (by omega) hk9
  have HRt2 := fun (w3 : World) (X2 : List (Nat × Obj)) (s2 : F.Po) (h3 : PwE w0 w3 X2 p d q r s2 s1 D D (n + 10 + 10) k) => rtakenZ h3 hdk hk9 hok1 hg1 hmo1 hnl1 hct1 hc1 hc2
  obtain ⟨R2, hR2⟩ : ∃ R2, R2 = G.takenG D (G.maps (G.cnt s1)) 0 s1 [] := ⟨_, rfl⟩
  rw [← hR2] at e2 l2 HLf HRt2
  obtain ⟨zs1, z, s2⟩ := R2
  have e2 : s2 = F.getS s1 D ((0 : Nat) : Int) := e2
  have hct2 : s2.ct = (c : Int) := by rw [e2, (F.get_same s1 D _).2.1]; exact hct1
  have hst : s2 = sTwo s D := by rw [e2, e1]; rfl
  obtain ⟨nz, hnz⟩ : ∃ nz, zs.length = nz := ⟨_, rfl⟩
  obtain ⟨nz1, hnz1⟩ : ∃ nz1, zs1.length = nz1 := ⟨_, rfl⟩
  have hnz9 : nz ≤ 1920 := by rw [hm1] at l1; simpa [hnz] using l1
  have hnz19 : nz1 ≤ 1920 := by rw [hm11] at l2; simpa [hnz1] using l2
  obtain ⟨lf, hlf⟩ : ∃ lf : Int, lf = if z = 0 then (c : Int) - (nz1 : Int) else 0 := ⟨_, rfl⟩
  have HTk := hid (show Calls Tryz.prog 29 #[.pointer (some ⟨sp, 0, none⟩)] w (fun e w' => ∃ a cap X2, e = .returned (.tuple #[.slice a nz cap, .int .i64 (z0 : Int)]) ∧ Hid (PwE w0 w' X2 p d q r s1 s D D (n + 10) k ∧ (∀ x ∈ [(sp, SBox p)], x ∈ X2) ∧ AgX X2 (.slice a nz cap) zs)) by rw [← hnz]; exact HTk)
  have HRt := hid (fun (w1 : World) (X2 : List (Nat × Obj)) (h1 : PwE w0 w1 X2 p d q r s1 s D D (n + 10) k) => show Calls Tryz.prog 56 #[.pointer (some ⟨q, 0, none⟩)] w1 (fun e w' => ∃ a cap, e = .returned (.tuple #[.slice a nz cap, .int .i64 (z0 : Int)]) ∧ Hid (NAt w' a zs ∧ PwE w0 w' X2 p d q r s1 s1 D D (n + 10) k)) by rw [← hnz]; exact HRt w1 X2 s1 h1)
  have HLfH := hid (fun (w2 : World) (X2 : List (Nat × Obj)) (h2 : PwE w0 w2 X2 p d q r s1 s1 D D (n + 10) k) (hm : (sp, SBox p) ∈ X2) => show Calls Tryz.prog 58 #[.pointer (some ⟨sp, 0, none⟩)] w2 (fun e w' => e = .returned (.tuple #[.int .i64 lf, .int .i64 (z : Int)]) ∧ Hid (PwE w0 w' X2 p d q r s2 s1 D D (n + 10 + 10) k)) by
    have q1 := HLf w2 X2 h2 hm
    have q2 : (if z = 0 then s1.ct - (zs1.length : Int) else 0) = lf := by rw [hlf, hct1, hnz1]
    simp only [q2] at q1
    exact q1)
  have HRt2 := hid (fun (w3 : World) (X2 : List (Nat × Obj)) (h3 : PwE w0 w3 X2 p d q r s2 s1 D D (n + 10 + 10) k) => show Calls Tryz.prog 56 #[.pointer (some ⟨q, 0, none⟩)] w3 (fun e w' => ∃ a cap, e = .returned (.tuple #[.slice a nz1 cap, .int .i64 (z : Int)]) ∧ Hid (NAt w' a zs1 ∧ PwE w0 w' X2 p d q r s2 s2 D D (n + 20) k)) by rw [← hnz1]; exact HRt2 w3 X2 s2 h3)
  have HIn := hid (fun (w' : World) (a1 a2 : Option Addr) (k1 k2 : Nat) (h1 : NAt w' a1 zs) (h2 : NAt w' a2 zs) => ints_same zs nz hnz (by omega) a1 a2 k1 k2 w' h1 h2)
  have HCt := hid hct2
  have HSz := hid hsz
  have HSt := hid hst
  have HC := hid (And.intro hc1 hc2)
  have hc9 : (c : Int) ≤ 1920 := by omega
  have hnzz : (nz1 : Int) ≤ 1920 := by omega
  have HHlf := hid hlf
  clear h hnl hct hmo hc1 hc2 hn hk9 hsz hg hok hdk hcn hm1 hs1 e1 l1 hR1 hct1 hmo1 hnl1 hg1 hok1 hcn1 hm11 e2 l2 hR2 hct2 hst hnz hnz1 hnz9 hnz19 hlf
  go_enter Tryz.func17, Tryz.ntmps17
  go_upto_region 3 with (first
    | (go_at_call 29; refine HTk.out.mono ?_; rintro e w1 ⟨a, cap, X2, rfl, H1⟩)
    | (go_at_call 56; refine (HRt.out w1 X2 H1.out.1).mono ?_; rintro e w2 ⟨a', cap', rfl, H2⟩
       have HNa := hid (show NAt w2 a zs by obtain ⟨Y, hL, _⟩ := H2.out.2.lpx; exact ((H1.out.2.2.moreS (fun x hx => List.mem_append_left _ hx)).nat2 hL).1)))
  go_upto_region 5 with (go_at_call 57; refine (HIn.out w2 a a' cap cap' HNa.out H2.out.1).mono ?_; rintro e w3 ⟨rfl, hA3⟩; have H3 := hid (H2.out.2.adds hA3); clear hA3)
  go_upto_region 7 with (first
    | (go_at_call 58; refine (HLfH.out w3 X2 H3.out (H1.out.2.1 _ List.mem_cons_self)).mono ?_; rintro e w4 ⟨rfl, H4⟩)
    | (go_at_call 56; refine (HRt2.out w4 X2 H4.out).mono ?_; rintro e w5 ⟨b', capb, rfl, H5⟩))
  have HPw := hid H5.out.2
  have cq2 : w5.cell? ⟨q, 2, none⟩ = some (.int .i64 (c : Int)) := HPw.out.cq HCt.out
  obtain ⟨wq, hwq⟩ : ∃ wq, wq = w5 := ⟨_, rfl⟩
  rw [← hwq] at HPw cq2
  have HMm := hid (H1.out.2.1 _ List.mem_cons_self)
  have HX2 := hid H1.out.2.1
  have HSpl := hid (show Calls Tryz.prog 15 #[.pointer (some ⟨sp, 0, none⟩)] wq (Tells (.pointer (some ⟨p, 0, none⟩)) wq) by
    obtain ⟨Y, hL, _⟩ := HPw.out.lpx
    exact spool_any (hL.spc (List.mem_append_left _ HMm.out)).box)
  have HMp := hid (fun w' (hA : Adds wq w') => show Calls Tryz.prog 36 #[.pointer (some ⟨sp, 0, none⟩)] w' (Tells (.int .i64 1) w') by
    obtain ⟨Y, hL, _⟩ := (HPw.out.adds hA).lpx
    have q2 : G.cnt s2 = c := by unfold G.cnt; rw [HCt.out]; omega
    have q1 := smaps_any (hL.spc (List.mem_append_left _ HMm.out)) (by rw [q2]; have := HC.out.2; omega)
    rw [q2, G.maps1 HC.out.1 HC.out.2] at q1
    exact q1)
  have HRm := hid (fun w' => rmaps1 w' HC.out.1 HC.out.2)
  obtain ⟨zf, hzf⟩ : ∃ zf, zf = F.which s2 F.isFresh := ⟨_, rfl⟩
  obtain ⟨zd, hzd⟩ : ∃ zd, zd = F.which s2 F.isDirty := ⟨_, rfl⟩
  obtain ⟨zh, hzh⟩ : ∃ zh, zh = F.which s2 F.isHeld := ⟨_, rfl⟩
  obtain ⟨nf, hnf⟩ : ∃ nf, zf.length = nf := ⟨_, rfl⟩
  obtain ⟨nd, hnd⟩ : ∃ nd, zd.length = nd := ⟨_, rfl⟩
  obtain ⟨nh, hnh⟩ : ∃ nh, zh.length = nh := ⟨_, rfl⟩
  have lnf : nf ≤ 10000 := by have := which_le HPw.out.facts.1 HPw.out.facts.2.1 F.isFresh; rw [← hzf, hnf] at this; have := HSz.out; omega
  have lnd : nd ≤ 10000 := by have := which_le HPw.out.facts.1 HPw.out.facts.2.1 F.isDirty; rw [← hzd, hnd] at this; have := HSz.out; omega
  have lnh : nh ≤ 10000 := by have := which_le HPw.out.facts.1 HPw.out.facts.2.1 F.isHeld; rw [← hzh, hnh] at this; have := HSz.out; omega
  have HFr := hid (fun w' (hA : Adds wq w') => show Calls Tryz.prog 59 #[.pointer (some ⟨p, 0, none⟩)] w' (PNa w' zf nf) by
    obtain ⟨O, OD, OQ, OR, hh⟩ := HPw.out.adds hA
    exact (lp_fresh ⟨O, OD, hh.wl⟩).mono (fun _ _ c => by rw [hzf] at hnf ⊢; exact c.na hnf))
  have HDi := hid (fun w' (hA : Adds wq w') => show Calls Tryz.prog 61 #[.pointer (some ⟨p, 0, none⟩)] w' (PNa w' zd nd) by
    obtain ⟨O, OD, OQ, OR, hh⟩ := HPw.out.adds hA
    exact (lp_dirty ⟨O, OD, hh.wl⟩).mono (fun _ _ c => by rw [hzd] at hnd ⊢; exact c.na hnd))
  have HHe := hid (fun w' (hA : Adds wq w') => show Calls Tryz.prog 62 #[.pointer (some ⟨p, 0, none⟩)] w' (PNa w' zh nh) by
    obtain ⟨O, OD, OQ, OR, hh⟩ := HPw.out.adds hA
    exact (lp_held ⟨O, OD, hh.wl⟩).mono (fun _ _ c => by rw [hzh] at hnh ⊢; exact c.na hnh))
  have HW1 := hid (fun w' (hA : Adds wq w') => show Calls Tryz.prog 60 #[.pointer (some ⟨q, 0, none⟩), .int .i64 1] w' (PNa w' zf nf) from ((HPw.out.adds hA).nums rfl HSz.out 1 F.isFresh (.inr (.inl ⟨rfl, rfl⟩))).mono (fun _ _ c => by rw [hzf] at hnf ⊢; exact c.na hnf))
  have HW2 := hid (fun w' (hA : Adds wq w') => show Calls Tryz.prog 60 #[.pointer (some ⟨q, 0, none⟩), .int .i64 2] w' (PNa w' zd nd) from ((HPw.out.adds hA).nums rfl HSz.out 2 F.isDirty (.inr (.inr ⟨rfl, rfl⟩))).mono (fun _ _ c => by rw [hzd] at hnd ⊢; exact c.na hnd))
  have HW0 := hid (fun w' (hA : Adds wq w') => show Calls Tryz.prog 60 #[.pointer (some ⟨q, 0, none⟩), .int .i64 0] w' (PNa w' zh nh) from ((HPw.out.adds hA).nums rfl HSz.out 0 F.isHeld (.inl ⟨rfl, rfl⟩)).mono (fun _ _ c => by rw [hzh] at hnh ⊢; exact c.na hnh))
  have HInf := hid (fun (w' : World) (a1 a2 : Option Addr) (k1 k2 : Nat) (h1 : NAt w' a1 zf) (h2 : NAt w' a2 zf) => ints_same zf nf hnf lnf a1 a2 k1 k2 w' h1 h2)
  have HInd := hid (fun (w' : World) (a1 a2 : Option Addr) (k1 k2 : Nat) (h1 : NAt w' a1 zd) (h2 : NAt w' a2 zd) => ints_same zd nd hnd lnd a1 a2 k1 k2 w' h1 h2)
  have HInh := hid (fun (w' : World) (a1 a2 : Option Addr) (k1 k2 : Nat) (h1 : NAt w' a1 zh) (h2 : NAt w' a2 zh) => ints_same zh nh hnh lnh a1 a2 k1 k2 w' h1 h2)
  clear hzf hzd hzh hnf hnd hnh
  by_cases hz : z = 0
  · subst hz
    have hsb : (c : Int) - (nz1 : Int) = lf := by rw [HHlf.out, if_pos rfl]
    rw [← hwq]
    clear hwq
    go_upto_region 11 with (go_at_call 15; refine HSpl.out.mono ?_; rintro e _ ⟨rfl, hw⟩; rw [hw]; clear hw)
    clear hsb
    refine H_begin (S := fun w' : World => Adds wq w') (by kernel_rfl) ?_
    have hS : (fun w' : World => Adds wq w') wq.drew := (Touch.refl _ wq).drew
    refine H_put (i := 0) 55 (v := .int .i64 lf) rfl rfl (by kernel_rfl) (by kernel_rfl) (by kernel_rfl) (fun _ _ _ h => h) (Or.inl ⟨by rfl, fun w' hw' => ?_⟩) hS ?_
    · go_simp
    simp only [Act.put, List.setIfInBounds_toArray, List.set_cons_zero, List.set_cons_succ]
    refine H_put (i := 1) 56 (v := .int .i64 lf) rfl rfl (by kernel_rfl) (by kernel_rfl) (by kernel_rfl) (fun _ _ _ h => h) (Or.inl ⟨by rfl, fun w' hw' => ?_⟩) hS ?_
    · go_simp
    simp only [Act.put, List.setIfInBounds_toArray, List.set_cons_zero, List.set_cons_succ]
    refine H_put (i := 2) 57 (v := .bool true) rfl rfl (by kernel_rfl) (by kernel_rfl) (by kernel_rfl) (fun _ _ _ h => h) (Or.inl ⟨by rfl, fun w' hw' => ?_⟩) hS ?_
    · go_simp
    simp only [Act.put, List.setIfInBounds_toArray, List.set_cons_zero, List.set_cons_succ]
    refine H_put (i := 3) 58 (v := .bool true) rfl rfl (by kernel_rfl) (by kernel_rfl) (by kernel_rfl) (fun _ _ _ h => h) (Or.inl ⟨by rfl, fun w' hw' => ?_⟩) hS ?_
    · go_simp
    simp only [Act.put, List.setIfInBounds_toArray, List.set_cons_zero, List.set_cons_succ]
    refine H_put (i := 4) 59 (v := .int .i64 0) rfl rfl (by kernel_rfl) (by kernel_rfl) (by kernel_rfl) (fun _ _ _ h => h) (Or.inl ⟨by rfl, fun w' hw' => ?_⟩) hS ?_
    · go_simp
    simp only [Act.put, List.setIfInBounds_toArray, List.set_cons_zero, List.set_cons_succ]
    refine H_put (i := 5) 60 (v := .int .i64 0) rfl rfl (by kernel_rfl) (by kernel_rfl) (by kernel_rfl) (fun _ _ _ h => h) (Or.inl ⟨by rfl, fun w' hw' => ?_⟩) hS ?_
    · go_simp
    simp only [Act.put, List.setIfInBounds_toArray, List.set_cons_zero, List.set_cons_succ]
    refine H_put (i := 6) 61 (v := .bool true) rfl rfl (by kernel_rfl) (by kernel_rfl) (by kernel_rfl) (fun _ _ _ h => h) (Or.inl ⟨by rfl, fun w' hw' => ?_⟩) hS ?_
    · go_simp
    simp only [Act.put, List.setIfInBounds_toArray, List.set_cons_zero, List.set_cons_succ]
    refine H_put (i := 7) 62 (v := .bool true) rfl rfl (by kernel_rfl) (by kernel_rfl) (by kernel_rfl) (fun _ _ _ h => h) (Or.inl ⟨by rfl, fun w' hw' => ?_⟩) hS ?_
    · go_simp
    simp only [Act.put, List.setIfInBounds_toArray, List.set_cons_zero, List.set_cons_succ]
    refine H_put (i := 8) 63 (v := .bool true) rfl rfl (by kernel_rfl) (by kernel_rfl) (by kernel_rfl) (fun _ _ _ h => h) (Or.inl ⟨by rfl, fun w' hw' => ?_⟩) hS ?_
    · go_simp
    simp only [Act.put, List.setIfInBounds_toArray, List.set_cons_zero, List.set_cons_succ]
    refine H_put (i := 9) 64 (v := .pointer (some ⟨sp, 0, none⟩)) rfl rfl (by kernel_rfl) (by kernel_rfl) (by kernel_rfl) (fun _ _ _ h => h) (Or.inl ⟨by rfl, fun w' hw' => ?_⟩) hS ?_
    · go_simp
    simp only [Act.put, List.setIfInBounds_toArray, List.set_cons_zero, List.set_cons_succ]
    refine H_put (i := 11) 66 (v := .pointer (some ⟨q, 0, none⟩)) rfl rfl (by kernel_rfl) (by kernel_rfl) (by kernel_rfl) (fun _ _ _ h => h) (Or.inl ⟨by rfl, fun w' hw' => ?_⟩) hS ?_
    · go_simp
    simp only [Act.put, List.setIfInBounds_toArray, List.set_cons_zero, List.set_cons_succ]
    refine H_put (i := 12) 67 (v := .pointer (some ⟨q, 0, none⟩)) rfl rfl (by kernel_rfl) (by kernel_rfl) (by kernel_rfl) (fun _ _ _ h => h) (Or.inl ⟨by rfl, fun w' hw' => ?_⟩) hS ?_
    · go_simp
    simp only [Act.put, List.setIfInBounds_toArray, List.set_cons_zero, List.set_cons_succ]
    refine H_put (i := 13) 68 (v := .pointer (some ⟨q, 2, none⟩)) rfl rfl (by kernel_rfl) (by kernel_rfl) (by kernel_rfl) (fun _ _ _ h => h) (Or.inl ⟨by rfl, fun w' hw' => ?_⟩) hS ?_
    · go_simp
    simp only [Act.put, List.setIfInBounds_toArray, List.set_cons_zero, List.set_cons_succ]
    refine H_put (i := 14) 69 (v := .int .i64 (c : Int)) rfl rfl (by kernel_rfl) (by kernel_rfl) (by kernel_rfl) (fun _ _ _ h => h) (Or.inl ⟨by rfl, fun w' hw' => ?_⟩) hS ?_
    · (have cc : w'.cell? ⟨q, 2, none⟩ = some (.int .i64 (c : Int)) := below_adds hw' cq2; clear hw'; go_simp)
    simp only [Act.put, List.setIfInBounds_toArray, List.set_cons_zero, List.set_cons_succ]
    refine H_call (i := 10) 65 36 #[.pointer (some ⟨sp, 0, none⟩)] (by kernel_rfl) rfl rfl (by rfl) (by go_simp) (HMp.out wq.drew hS) ?_
    rintro e _ ⟨rfl, hw⟩
    rw [hw]
    clear hw
    have hS2 : (fun w' : World => Adds wq w') _ := hS
    refine ⟨_, _, rfl, hS2, fun w' h => h, ?_⟩
    clear hS; have hS := hS2; clear hS2
    simp only [Act.put, List.setIfInBounds_toArray, List.set_cons_zero, List.set_cons_succ]
    refine H_call (i := 15) 70 39 #[.int .i64 (c : Int)] (by kernel_rfl) rfl rfl (by rfl) (by go_simp) (HRm.out wq.drew) ?_
    rintro e _ ⟨rfl, hw⟩
    rw [hw]
    clear hw
    have hS2 : (fun w' : World => Adds wq w') _ := hS
    refine ⟨_, _, rfl, hS2, fun w' h => h, ?_⟩
    clear hS; have hS := hS2; clear hS2
    simp only [Act.put, List.setIfInBounds_toArray, List.set_cons_zero, List.set_cons_succ]
    refine H_put (i := 16) 71 (v := .bool true) rfl rfl (by kernel_rfl) (by kernel_rfl) (by kernel_rfl) (fun _ _ _ h => h) (Or.inl ⟨by rfl, fun w' hw' => ?_⟩) hS ?_
    · go_simp
    simp only [Act.put, List.setIfInBounds_toArray, List.set_cons_zero, List.set_cons_succ]
    refine H_put (i := 17) 72 (v := .bool true) rfl rfl (by kernel_rfl) (by kernel_rfl) (by kernel_rfl) (fun _ _ _ h => h) (Or.inl ⟨by rfl, fun w' hw' => ?_⟩) hS ?_
    · go_simp
    simp only [Act.put, List.setIfInBounds_toArray, List.set_cons_zero, List.set_cons_succ]
    refine H_put (i := 18) 73 (v := .bool true) rfl rfl (by kernel_rfl) (by kernel_rfl) (by kernel_rfl) (fun _ _ _ h => h) (Or.inl ⟨by rfl, fun w' hw' => ?_⟩) hS ?_
    · go_simp
    simp only [Act.put, List.setIfInBounds_toArray, List.set_cons_zero, List.set_cons_succ]
    refine H_put (i := 19) 74 (v := .pointer (some ⟨p, 0, none⟩)) rfl rfl (by kernel_rfl) (by kernel_rfl) (by kernel_rfl) (fun _ _ _ h => h) (Or.inl ⟨by rfl, fun w' hw' => ?_⟩) hS ?_
    · go_simp
    simp only [Act.put, List.setIfInBounds_toArray, List.set_cons_zero, List.set_cons_succ]
    refine H_put (i := 21) 76 (v := .pointer (some ⟨q, 0, none⟩)) rfl rfl (by kernel_rfl) (by kernel_rfl) (by kernel_rfl) (fun _ _ _ h => h) (Or.inl ⟨by rfl, fun w' hw' => ?_⟩) hS ?_
    · go_simp
    simp only [Act.put, List.setIfInBounds_toArray, List.set_cons_zero, List.set_cons_succ]
    refine H_call (i := 20) 75 59 #[.pointer (some ⟨p, 0, none⟩)] (by kernel_rfl) rfl rfl (by rfl) (by go_simp) (HFr.out wq.drew hS) ?_
    rintro e v1 ⟨a1, k1, rfl, H1⟩
    have hA1 : Adds wq v1 := hS.trans H1.out.2
    have hS2 : (fun w' : World => Adds wq w') _ := hA1
    refine ⟨_, _, rfl, hS2, fun w' h => h, ?_⟩
    clear hS; have hS := hS2; clear hS2
    simp only [Act.put, List.setIfInBounds_toArray, List.set_cons_zero, List.set_cons_succ]
    refine H_call (i := 22) 77 60 #[.pointer (some ⟨q, 0, none⟩), .int .i64 1] (by kernel_rfl) rfl rfl (by rfl) (by go_simp) (HW1.out v1 hS) ?_
    rintro e v2 ⟨a2, k2, rfl, H2⟩
    have hA2 : Adds wq v2 := hS.trans H2.out.2
    have hS2 : (fun w' : World => Adds wq w') _ := hA2
    refine ⟨_, _, rfl, hS2, fun w' h => h, ?_⟩
    clear hS; have hS := hS2; clear hS2
    simp only [Act.put, List.setIfInBounds_toArray, List.set_cons_zero, List.set_cons_succ]
    refine H_call (i := 23) 78 57 #[.slice a1 nf k1, .slice a2 nf k2] (by kernel_rfl) rfl rfl (by rfl) (by go_simp) (HInf.out v2 a1 a2 k1 k2 (H1.out.1.adds H2.out.2) (H2.out.1)) ?_
    rintro e v3 ⟨rfl, hA⟩
    have hA3 : Adds wq v3 := hS.trans hA
    clear hA
    have hS2 : (fun w' : World => Adds wq w') _ := hA3
    refine ⟨_, _, rfl, hS2, fun w' h => h, ?_⟩
    clear hS; have hS := hS2; clear hS2
    simp only [Act.put, List.setIfInBounds_toArray, List.set_cons_zero, List.set_cons_succ]
    refine H_put (i := 24) 79 (v := .bool true) rfl rfl (by kernel_rfl) (by kernel_rfl) (by kernel_rfl) (fun _ _ _ h => h) (Or.inl ⟨by rfl, fun w' hw' => ?_⟩) hS ?_
    · go_simp
    simp only [Act.put, List.setIfInBounds_toArray, List.set_cons_zero, List.set_cons_succ]
    refine H_put (i := 25) 80 (v := .bool true) rfl rfl (by kernel_rfl) (by kernel_rfl) (by kernel_rfl) (fun _ _ _ h => h) (Or.inl ⟨by rfl, fun w' hw' => ?_⟩) hS ?_
    · go_simp
    simp only [Act.put, List.setIfInBounds_toArray, List.set_cons_zero, List.set_cons_succ]
    refine H_put (i := 26) 81 (v := .pointer (some ⟨p, 0, none⟩)) rfl rfl (by kernel_rfl) (by kernel_rfl) (by kernel_rfl) (fun _ _ _ h => h) (Or.inl ⟨by rfl, fun w' hw' => ?_⟩) hS ?_
    · go_simp
    simp only [Act.put, List.setIfInBounds_toArray, List.set_cons_zero, List.set_cons_succ]
    refine H_put (i := 28) 83 (v := .pointer (some ⟨q, 0, none⟩)) rfl rfl (by kernel_rfl) (by kernel_rfl) (by kernel_rfl) (fun _ _ _ h => h) (Or.inl ⟨by rfl, fun w' hw' => ?_⟩) hS ?_
    · go_simp
    simp only [Act.put, List.setIfInBounds_toArray, List.set_cons_zero, List.set_cons_succ]
    refine H_call (i := 27) 82 61 #[.pointer (some ⟨p, 0, none⟩)] (by kernel_rfl) rfl rfl (by rfl) (by go_simp) (HDi.out v3 hS) ?_
    rintro e v4 ⟨a4, k4, rfl, H4⟩
    have hA4 : Adds wq v4 := hS.trans H4.out.2
    have hS2 : (fun w' : World => Adds wq w') _ := hA4
    refine ⟨_, _, rfl, hS2, fun w' h => h, ?_⟩
    clear hS; have hS := hS2; clear hS2
    simp only [Act.put, List.setIfInBounds_toArray, List.set_cons_zero, List.set_cons_succ]
    refine H_call (i := 29) 84 60 #[.pointer (some ⟨q, 0, none⟩), .int .i64 2] (by kernel_rfl) rfl rfl (by rfl) (by go_simp) (HW2.out v4 hS) ?_
    rintro e v5 ⟨a5, k5, rfl, H5⟩
    have hA5 : Adds wq v5 := hS.trans H5.out.2
    have hS2 : (fun w' : World => Adds wq w') _ := hA5
    refine ⟨_, _, rfl, hS2, fun w' h => h, ?_⟩
    clear hS; have hS := hS2; clear hS2
    simp only [Act.put, List.setIfInBounds_toArray, List.set_cons_zero, List.set_cons_succ]
    refine H_call (i := 30) 85 57 #[.slice a4 nd k4, .slice a5 nd k5] (by kernel_rfl) rfl rfl (by rfl) (by go_simp) (HInd.out v5 a4 a5 k4 k5 (H4.out.1.adds H5.out.2) (H5.out.1)) ?_
    rintro e v6 ⟨rfl, hA⟩
    have hA6 : Adds wq v6 := hS.trans hA
    clear hA
    have hS2 : (fun w' : World => Adds wq w') _ := hA6
    refine ⟨_, _, rfl, hS2, fun w' h => h, ?_⟩
    clear hS; have hS := hS2; clear hS2
    simp only [Act.put, List.setIfInBounds_toArray, List.set_cons_zero, List.set_cons_succ]
    refine H_put (i := 31) 86 (v := .bool true) rfl rfl (by kernel_rfl) (by kernel_rfl) (by kernel_rfl) (fun _ _ _ h => h) (Or.inl ⟨by rfl, fun w' hw' => ?_⟩) hS ?_
    · go_simp
    simp only [Act.put, List.setIfInBounds_toArray, List.set_cons_zero, List.set_cons_succ]
    refine H_put (i := 32) 87 (v := .bool true) rfl rfl (by kernel_rfl) (by kernel_rfl) (by kernel_rfl) (fun _ _ _ h => h) (Or.inl ⟨by rfl, fun w' hw' => ?_⟩) hS ?_
    · go_simp
    simp only [Act.put, List.setIfInBounds_toArray, List.set_cons_zero, List.set_cons_succ]
    refine H_put (i := 33) 88 (v := .pointer (some ⟨p, 0, none⟩)) rfl rfl (by kernel_rfl) (by kernel_rfl) (by kernel_rfl) (fun _ _ _ h => h) (Or.inl ⟨by rfl, fun w' hw' => ?_⟩) hS ?_
    · go_simp
    simp only [Act.put, List.setIfInBounds_toArray, List.set_cons_zero, List.set_cons_succ]
    refine H_put (i := 35) 90 (v := .pointer (some ⟨q, 0, none⟩)) rfl rfl (by kernel_rfl) (by kernel_rfl) (by kernel_rfl) (fun _ _ _ h => h) (Or.inl ⟨by rfl, fun w' hw' => ?_⟩) hS ?_
    · go_simp
    simp only [Act.put, List.setIfInBounds_toArray, List.set_cons_zero, List.set_cons_succ]
    refine H_call (i := 34) 89 62 #[.pointer (some ⟨p, 0, none⟩)] (by kernel_rfl) rfl rfl (by rfl) (by go_simp) (HHe.out v6 hS) ?_
    rintro e v7 ⟨a7, k7, rfl, H7⟩
    have hA7 : Adds wq v7 := hS.trans H7.out.2
    have hS2 : (fun w' : World => Adds wq w') _ := hA7
    refine ⟨_, _, rfl, hS2, fun w' h => h, ?_⟩
    clear hS; have hS := hS2; clear hS2
    simp only [Act.put, List.setIfInBounds_toArray, List.set_cons_zero, List.set_cons_succ]
    refine H_call (i := 36) 91 60 #[.pointer (some ⟨q, 0, none⟩), .int .i64 0] (by kernel_rfl) rfl rfl (by rfl) (by go_simp) (HW0.out v7 hS) ?_
    rintro e v8 ⟨a8, k8, rfl, H8⟩
    have hA8 : Adds wq v8 := hS.trans H8.out.2
    have hS2 : (fun w' : World => Adds wq w') _ := hA8
    refine ⟨_, _, rfl, hS2, fun w' h => h, ?_⟩
    clear hS; have hS := hS2; clear hS2
    simp only [Act.put, List.setIfInBounds_toArray, List.set_cons_zero, List.set_cons_succ]
    refine H_call (i := 37) 92 57 #[.slice a7 nh k7, .slice a8 nh k8] (by kernel_rfl) rfl rfl (by rfl) (by go_simp) (HInh.out v8 a7 a8 k7 k8 (H7.out.1.adds H8.out.2) (H8.out.1)) ?_
    rintro e v9 ⟨rfl, hA⟩
    have hA9 : Adds wq v9 := hS.trans hA
    clear hA
    have hS2 : (fun w' : World => Adds wq w') _ := hA9
    refine ⟨_, _, rfl, hS2, fun w' h => h, ?_⟩
    clear hS; have hS := hS2; clear hS2
    simp only [Act.put, List.setIfInBounds_toArray, List.set_cons_zero, List.set_cons_succ]
    refine H_put (i := 38) 93 (v := .bool true) rfl rfl (by kernel_rfl) (by kernel_rfl) (by kernel_rfl) (fun _ _ _ h => h) (Or.inl ⟨by rfl, fun w' hw' => ?_⟩) hS ?_
    · go_simp
    simp only [Act.put, List.setIfInBounds_toArray, List.set_cons_zero, List.set_cons_succ]
    refine H_put (i := 39) 4 (v := .bool true) rfl rfl (by kernel_rfl) (by kernel_rfl) (by kernel_rfl) (fun _ _ _ h => h) (Or.inl ⟨by rfl, fun w' hw' => ?_⟩) hS ?_
    · go_simp
    simp only [Act.put, List.setIfInBounds_toArray, List.set_cons_zero, List.set_cons_succ]
    refine wpAnyH_done (by kernel_rfl) ?_ _
    have HM := hid (HPw.out.adds hS)
    go_wp2_with fail
    go_ret
    exact ⟨rfl, by rw [← HSt.out]; exact HM.out.fewer (fun x hx => HX2.out x hx)⟩
  · have hz1 : ((z : Int) != 0) = true := by simp; omega
    have hz2 : ¬ (z : Int) = 0 := by omega
    obtain rfl : lf = 0 := by rw [HHlf.out, if_neg hz]
    rw [← hwq]
    clear hwq hz
    go_upto_region 11 with (go_at_call 15; refine HSpl.out.mono ?_; rintro e _ ⟨rfl, hw⟩; rw [hw]; clear hw)
    clear hz1 hz2
    refine H_begin (S := fun w' : World => Adds wq w') (by kernel_rfl) ?_
    have hS : (fun w' : World => Adds wq w') wq.drew := (Touch.refl _ wq).drew
    refine H_put (i := 0) 55 (v := .int .i64 0) rfl rfl (by kernel_rfl) (by kernel_rfl) (by kernel_rfl) (fun _ _ _ h => h) (Or.inl ⟨by rfl, fun w' hw' => ?_⟩) hS ?_
    · go_simp
    simp only [Act.put, List.setIfInBounds_toArray, List.set_cons_zero, List.set_cons_succ]
    refine H_put (i := 1) 56 (v := .int .i64 0) rfl rfl (by kernel_rfl) (by kernel_rfl) (by kernel_rfl) (fun _ _ _ h => h) (Or.inl ⟨by rfl, fun w' hw' => ?_⟩) hS ?_
    · go_simp
    simp only [Act.put, List.setIfInBounds_toArray, List.set_cons_zero, List.set_cons_succ]
    refine H_put (i := 2) 57 (v := .bool true) rfl rfl (by kernel_rfl) (by kernel_rfl) (by kernel_rfl) (fun _ _ _ h => h) (Or.inl ⟨by rfl, fun w' hw' => ?_⟩) hS ?_
    · go_simp
    simp only [Act.put, List.setIfInBounds_toArray, List.set_cons_zero, List.set_cons_succ]
    refine H_put (i := 3) 58 (v := .bool true) rfl rfl (by kernel_rfl) (by kernel_rfl) (by kernel_rfl) (fun _ _ _ h => h) (Or.inl ⟨by rfl, fun w' hw' => ?_⟩) hS ?_
    · go_simp
    simp only [Act.put, List.setIfInBounds_toArray, List.set_cons_zero, List.set_cons_succ]
    refine H_put (i := 4) 59 (v := .int .i64 (z : Int)) rfl rfl (by kernel_rfl) (by kernel_rfl) (by kernel_rfl) (fun _ _ _ h => h) (Or.inl ⟨by rfl, fun w' hw' => ?_⟩) hS ?_
    · go_simp
    simp only [Act.put, List.setIfInBounds_toArray, List.set_cons_zero, List.set_cons_succ]
    refine H_put (i := 5) 60 (v := .int .i64 (z : Int)) rfl rfl (by kernel_rfl) (by kernel_rfl) (by kernel_rfl) (fun _ _ _ h => h) (Or.inl ⟨by rfl, fun w' hw' => ?_⟩) hS ?_
    · go_simp
    simp only [Act.put, List.setIfInBounds_toArray, List.set_cons_zero, List.set_cons_succ]
    refine H_put (i := 6) 61 (v := .bool true) rfl rfl (by kernel_rfl) (by kernel_rfl) (by kernel_rfl) (fun _ _ _ h => h) (Or.inl ⟨by rfl, fun w' hw' => ?_⟩) hS ?_
    · go_simp
    simp only [Act.put, List.setIfInBounds_toArray, List.set_cons_zero, List.set_cons_succ]
    refine H_put (i := 7) 62 (v := .bool true) rfl rfl (by kernel_rfl) (by kernel_rfl) (by kernel_rfl) (fun _ _ _ h => h) (Or.inl ⟨by rfl, fun w' hw' => ?_⟩) hS ?_
    · go_simp
    simp only [Act.put, List.setIfInBounds_toArray, List.set_cons_zero, List.set_cons_succ]
    refine H_put (i := 8) 63 (v := .bool true) rfl rfl (by kernel_rfl) (by kernel_rfl) (by kernel_rfl) (fun _ _ _ h => h) (Or.inl ⟨by rfl, fun w' hw' => ?_⟩) hS ?_
    · go_simp
    simp only [Act.put, List.setIfInBounds_toArray, List.set_cons_zero, List.set_cons_succ]
    refine H_put (i := 9) 64 (v := .pointer (some ⟨sp, 0, none⟩)) rfl rfl (by kernel_rfl) (by kernel_rfl) (by kernel_rfl) (fun _ _ _ h => h) (Or.inl ⟨by rfl, fun w' hw' => ?_⟩) hS ?_
    · go_simp
    simp only [Act.put, List.setIfInBounds_toArray, List.set_cons_zero, List.set_cons_succ]
    refine H_put (i := 11) 66 (v := .pointer (some ⟨q, 0, none⟩)) rfl rfl (by kernel_rfl) (by kernel_rfl) (by kernel_rfl) (fun _ _ _ h => h) (Or.inl ⟨by rfl, fun w' hw' => ?_⟩) hS ?_
    · go_simp
    simp only [Act.put, List.setIfInBounds_toArray, List.set_cons_zero, List.set_cons_succ]
    refine H_put (i := 12) 67 (v := .pointer (some ⟨q, 0, none⟩)) rfl rfl (by kernel_rfl) (by kernel_rfl) (by kernel_rfl) (fun _ _ _ h => h) (Or.inl ⟨by rfl, fun w' hw' => ?_⟩) hS ?_
    · go_simp
    simp only [Act.put, List.setIfInBounds_toArray, List.set_cons_zero, List.set_cons_succ]
    refine H_put (i := 13) 68 (v := .pointer (some ⟨q, 2, none⟩)) rfl rfl (by kernel_rfl) (by kernel_rfl) (by kernel_rfl) (fun _ _ _ h => h) (Or.inl ⟨by rfl, fun w' hw' => ?_⟩) hS ?_
    · go_simp
    simp only [Act.put, List.setIfInBounds_toArray, List.set_cons_zero, List.set_cons_succ]
    refine H_put (i := 14) 69 (v := .int .i64 (c : Int)) rfl rfl (by kernel_rfl) (by kernel_rfl) (by kernel_rfl) (fun _ _ _ h => h) (Or.inl ⟨by rfl, fun w' hw' => ?_⟩) hS ?_
    · (have cc : w'.cell? ⟨q, 2, none⟩ = some (.int .i64 (c : Int)) := below_adds hw' cq2; clear hw'; go_simp)
    simp only [Act.put, List.setIfInBounds_toArray, List.set_cons_zero, List.set_cons_succ]
    refine H_call (i := 10) 65 36 #[.pointer (some ⟨sp, 0, none⟩)] (by kernel_rfl) rfl rfl (by rfl) (by go_simp) (HMp.out wq.drew hS) ?_
    rintro e _ ⟨rfl, hw⟩
    rw [hw]
    clear hw
    have hS2 : (fun w' : World => Adds wq w') _ := hS
    refine ⟨_, _, rfl, hS2, fun w' h => h, ?_⟩
    clear hS; have hS := hS2; clear hS2
    simp only [Act.put, List.setIfInBounds_toArray, List.set_cons_zero, List.set_cons_succ]
    refine H_call (i := 15) 70 39 #[.int .i64 (c : Int)] (by kernel_rfl) rfl rfl (by rfl) (by go_simp) (HRm.out wq.drew) ?_
    rintro e _ ⟨rfl, hw⟩
    rw [hw]
    clear hw
    have hS2 : (fun w' : World => Adds wq w') _ := hS
    refine ⟨_, _, rfl, hS2, fun w' h => h, ?_⟩
    clear hS; have hS := hS2; clear hS2
    simp only [Act.put, List.setIfInBounds_toArray, List.set_cons_zero, List.set_cons_succ]
    refine H_put (i := 16) 71 (v := .bool true) rfl rfl (by kernel_rfl) (by kernel_rfl) (by kernel_rfl) (fun _ _ _ h => h) (Or.inl ⟨by rfl, fun w' hw' => ?_⟩) hS ?_
    · go_simp
    simp only [Act.put, List.setIfInBounds_toArray, List.set_cons_zero, List.set_cons_succ]
    refine H_put (i := 17) 72 (v := .bool true) rfl rfl (by kernel_rfl) (by kernel_rfl) (by kernel_rfl) (fun _ _ _ h => h) (Or.inl ⟨by rfl, fun w' hw' => ?_⟩) hS ?_
    · go_simp
    simp only [Act.put, List.setIfInBounds_toArray, List.set_cons_zero, List.set_cons_succ]
    refine H_put (i := 18) 73 (v := .bool true) rfl rfl (by kernel_rfl) (by kernel_rfl) (by kernel_rfl) (fun _ _ _ h => h) (Or.inl ⟨by rfl, fun w' hw' => ?_⟩) hS ?_
    · go_simp
    simp only [Act.put, List.setIfInBounds_toArray, List.set_cons_zero, List.set_cons_succ]
    refine H_put (i := 19) 74 (v := .pointer (some ⟨p, 0, none⟩)) rfl rfl (by kernel_rfl) (by kernel_rfl) (by kernel_rfl) (fun _ _ _ h => h) (Or.inl ⟨by rfl, fun w' hw' => ?_⟩) hS ?_
    · go_simp
    simp only [Act.put, List.setIfInBounds_toArray, List.set_cons_zero, List.set_cons_succ]
    refine H_put (i := 21) 76 (v := .pointer (some ⟨q, 0, none⟩)) rfl rfl (by kernel_rfl) (by kernel_rfl) (by kernel_rfl) (fun _ _ _ h => h) (Or.inl ⟨by rfl, fun w' hw' => ?_⟩) hS ?_
    · go_simp
    simp only [Act.put, List.setIfInBounds_toArray, List.set_cons_zero, List.set_cons_succ]
    refine H_call (i := 20) 75 59 #[.pointer (some ⟨p, 0, none⟩)] (by kernel_rfl) rfl rfl (by rfl) (by go_simp) (HFr.out wq.drew hS) ?_
    rintro e v1 ⟨a1, k1, rfl, H1⟩
    have hA1 : Adds wq v1 := hS.trans H1.out.2
    have hS2 : (fun w' : World => Adds wq w') _ := hA1
    refine ⟨_, _, rfl, hS2, fun w' h => h, ?_⟩
    clear hS; have hS := hS2; clear hS2
    simp only [Act.put, List.setIfInBounds_toArray, List.set_cons_zero, List.set_cons_succ]
    refine H_call (i := 22) 77 60 #[.pointer (some ⟨q, 0, none⟩), .int .i64 1] (by kernel_rfl) rfl rfl (by rfl) (by go_simp) (HW1.out v1 hS) ?_
    rintro e v2 ⟨a2, k2, rfl, H2⟩
    have hA2 : Adds wq v2 := hS.trans H2.out.2
    have hS2 : (fun w' : World => Adds wq w') _ := hA2
    refine ⟨_, _, rfl, hS2, fun w' h => h, ?_⟩
    clear hS; have hS := hS2; clear hS2
    simp only [Act.put, List.setIfInBounds_toArray, List.set_cons_zero, List.set_cons_succ]
    refine H_call (i := 23) 78 57 #[.slice a1 nf k1, .slice a2 nf k2] (by kernel_rfl) rfl rfl (by rfl) (by go_simp) (HInf.out v2 a1 a2 k1 k2 (H1.out.1.adds H2.out.2) (H2.out.1)) ?_
    rintro e v3 ⟨rfl, hA⟩
    have hA3 : Adds wq v3 := hS.trans hA
    clear hA
    have hS2 : (fun w' : World => Adds wq w') _ := hA3
    refine ⟨_, _, rfl, hS2, fun w' h => h, ?_⟩
    clear hS; have hS := hS2; clear hS2
    simp only [Act.put, List.setIfInBounds_toArray, List.set_cons_zero, List.set_cons_succ]
    refine H_put (i := 24) 79 (v := .bool true) rfl rfl (by kernel_rfl) (by kernel_rfl) (by kernel_rfl) (fun _ _ _ h => h) (Or.inl ⟨by rfl, fun w' hw' => ?_⟩) hS ?_
    · go_simp
    simp only [Act.put, List.setIfInBounds_toArray, List.set_cons_zero, List.set_cons_succ]
    refine H_put (i := 25) 80 (v := .bool true) rfl rfl (by kernel_rfl) (by kernel_rfl) (by kernel_rfl) (fun _ _ _ h => h) (Or.inl ⟨by rfl, fun w' hw' => ?_⟩) hS ?_
    · go_simp
    simp only [Act.put, List.setIfInBounds_toArray, List.set_cons_zero, List.set_cons_succ]
    refine H_put (i := 26) 81 (v := .pointer (some ⟨p, 0, none⟩)) rfl rfl (by kernel_rfl) (by kernel_rfl) (by kernel_rfl) (fun _ _ _ h => h) (Or.inl ⟨by rfl, fun w' hw' => ?_⟩) hS ?_
    · go_simp
    simp only [Act.put, List.setIfInBounds_toArray, List.set_cons_zero, List.set_cons_succ]
    refine H_put (i := 28) 83 (v := .pointer (some ⟨q, 0, none⟩)) rfl rfl (by kernel_rfl) (by kernel_rfl) (by kernel_rfl) (fun _ _ _ h => h) (Or.inl ⟨by rfl, fun w' hw' => ?_⟩) hS ?_
    · go_simp
    simp only [Act.put, List.setIfInBounds_toArray, List.set_cons_zero, List.set_cons_succ]
    refine H_call (i := 27) 82 61 #[.pointer (some ⟨p, 0, none⟩)] (by kernel_rfl) rfl rfl (by rfl) (by go_simp) (HDi.out v3 hS) ?_
    rintro e v4 ⟨a4, k4, rfl, H4⟩
    have hA4 : Adds wq v4 := hS.trans H4.out.2
    have hS2 : (fun w' : World => Adds wq w') _ := hA4
    refine ⟨_, _, rfl, hS2, fun w' h => h, ?_⟩
    clear hS; have hS := hS2; clear hS2
    simp only [Act.put, List.setIfInBounds_toArray, List.set_cons_zero, List.set_cons_succ]
    refine H_call (i := 29) 84 60 #[.pointer (some ⟨q, 0, none⟩), .int .i64 2] (by kernel_rfl) rfl rfl (by rfl) (by go_simp) (HW2.out v4 hS) ?_
    rintro e v5 ⟨a5, k5, rfl, H5⟩
    have hA5 : Adds wq v5 := hS.trans H5.out.2
    have hS2 : (fun w' : World => Adds wq w') _ := hA5
    refine ⟨_, _, rfl, hS2, fun w' h => h, ?_⟩
    clear hS; have hS := hS2; clear hS2
    simp only [Act.put, List.setIfInBounds_toArray, List.set_cons_zero, List.set_cons_succ]
    refine H_call (i := 30) 85 57 #[.slice a4 nd k4, .slice a5 nd k5] (by kernel_rfl) rfl rfl (by rfl) (by go_simp) (HInd.out v5 a4 a5 k4 k5 (H4.out.1.adds H5.out.2) (H5.out.1)) ?_
    rintro e v6 ⟨rfl, hA⟩
    have hA6 : Adds wq v6 := hS.trans hA
    clear hA
    have hS2 : (fun w' : World => Adds wq w') _ := hA6
    refine ⟨_, _, rfl, hS2, fun w' h => h, ?_⟩
    clear hS; have hS := hS2; clear hS2
    simp only [Act.put, List.setIfInBounds_toArray, List.set_cons_zero, List.set_cons_succ]
    refine H_put (i := 31) 86 (v := .bool true) rfl rfl (by kernel_rfl) (by kernel_rfl) (by kernel_rfl) (fun _ _ _ h => h) (Or.inl ⟨by rfl, fun w' hw' => ?_⟩) hS ?_
    · go_simp
    simp only [Act.put, List.setIfInBounds_toArray, List.set_cons_zero, List.set_cons_succ]
    refine H_put (i := 32) 87 (v := .bool true) rfl rfl (by kernel_rfl) (by kernel_rfl) (by kernel_rfl) (fun _ _ _ h => h) (Or.inl ⟨by rfl, fun w' hw' => ?_⟩) hS ?_
    · go_simp
    simp only [Act.put, List.setIfInBounds_toArray, List.set_cons_zero, List.set_cons_succ]
    refine H_put (i := 33) 88 (v := .pointer (some ⟨p, 0, none⟩)) rfl rfl (by kernel_rfl) (by kernel_rfl) (by kernel_rfl) (fun _ _ _ h => h) (Or.inl ⟨by rfl, fun w' hw' => ?_⟩) hS ?_
    · go_simp
    simp only [Act.put, List.setIfInBounds_toArray, List.set_cons_zero, List.set_cons_succ]
    refine H_put (i := 35) 90 (v := .pointer (some ⟨q, 0, none⟩)) rfl rfl (by kernel_rfl) (by kernel_rfl) (by kernel_rfl) (fun _ _ _ h => h) (Or.inl ⟨by rfl, fun w' hw' => ?_⟩) hS ?_
    · go_simp
    simp only [Act.put, List.setIfInBounds_toArray, List.set_cons_zero, List.set_cons_succ]
    refine H_call (i := 34) 89 62 #[.pointer (some ⟨p, 0, none⟩)] (by kernel_rfl) rfl rfl (by rfl) (by go_simp) (HHe.out v6 hS) ?_
    rintro e v7 ⟨a7, k7, rfl, H7⟩
    have hA7 : Adds wq v7 := hS.trans H7.out.2
    have hS2 : (fun w' : World => Adds wq w') _ := hA7
    refine ⟨_, _, rfl, hS2, fun w' h => h, ?_⟩
    clear hS; have hS := hS2; clear hS2
    simp only [Act.put, List.setIfInBounds_toArray, List.set_cons_zero, List.set_cons_succ]
    refine H_call (i := 36) 91 60 #[.pointer (some ⟨q, 0, none⟩), .int .i64 0] (by kernel_rfl) rfl rfl (by rfl) (by go_simp) (HW0.out v7 hS) ?_
    rintro e v8 ⟨a8, k8, rfl, H8⟩
    have hA8 : Adds wq v8 := hS.trans H8.out.2
    have hS2 : (fun w' : World => Adds wq w') _ := hA8
    refine ⟨_, _, rfl, hS2, fun w' h => h, ?_⟩
    clear hS; have hS := hS2; clear hS2
    simp only [Act.put, List.setIfInBounds_toArray, List.set_cons_zero, List.set_cons_succ]
    refine H_call (i := 37) 92 57 #[.slice a7 nh k7, .slice a8 nh k8] (by kernel_rfl) rfl rfl (by rfl) (by go_simp) (HInh.out v8 a7 a8 k7 k8 (H7.out.1.adds H8.out.2) (H8.out.1)) ?_
    rintro e v9 ⟨rfl, hA⟩
    have hA9 : Adds wq v9 := hS.trans hA
    clear hA
    have hS2 : (fun w' : World => Adds wq w') _ := hA9
    refine ⟨_, _, rfl, hS2, fun w' h => h, ?_⟩
    clear hS; have hS := hS2; clear hS2
    simp only [Act.put, List.setIfInBounds_toArray, List.set_cons_zero, List.set_cons_succ]
    refine H_put (i := 38) 93 (v := .bool true) rfl rfl (by kernel_rfl) (by kernel_rfl) (by kernel_rfl) (fun _ _ _ h => h) (Or.inl ⟨by rfl, fun w' hw' => ?_⟩) hS ?_
    · go_simp
    simp only [Act.put, List.setIfInBounds_toArray, List.set_cons_zero, List.set_cons_succ]
    refine H_put (i := 39) 4 (v := .bool true) rfl rfl (by kernel_rfl) (by kernel_rfl) (by kernel_rfl) (fun _ _ _ h => h) (Or.inl ⟨by rfl, fun w' hw' => ?_⟩) hS ?_
    · go_simp
    simp only [Act.put, List.setIfInBounds_toArray, List.set_cons_zero, List.set_cons_succ]
    refine wpAnyH_done (by kernel_rfl) ?_ _
    have HM := hid (HPw.out.adds hS)
    go_wp2_with fail
    go_ret
    exact ⟨rfl, by rw [← HSt.out]; exact HM.out.fewer (fun x hx => HX2.out x hx)⟩
end Go.Proofs.YtjlennpoaefllaaGreatDoor

/- A pool that holds at most the first page. -/
namespace Go.Proofs.YtjlennpoaefllaaGreatDoor
open Go.RowKit
/-- A pool of c pages that holds no page but the first. -/
structure Jz (c : Nat) (s : F.Po) : Prop where
  nl : F.Nil s
  ct : s.ct = (c : Int)
  mo : s.mo ≤ 256
  no : ∀ f ∈ s.L, f.no = 0
set_option maxRecDepth 100000 in
theorem Jz.held {c : Nat} {s : F.Po} (h : Jz c s) {f : F.Fr} (hf : f.no = 0) : ∀ g ∈ (F.held s 0 f).L, g.no = 0 := fun g hg => by
  rcases List.mem_append.1 hg with hg | hg
  · exact h.no g ((F.out_sub s 0).mem ((F.sansF_sub _ _).mem hg))
  · obtain rfl := List.mem_singleton.1 hg
    exact hf
set_option maxRecDepth 100000 in
theorem Jz.put {c : Nat} {s : F.Po} (h : Jz c s) (bs : List UInt8) : Jz c (F.putS s ((0 : Nat) : Int) bs) := by
  refine ⟨h.nl.put _ _, ?_, ?_, ?_⟩
  · unfold F.putS; split <;> exact h.ct
  · unfold F.putS; split <;> exact h.mo
  · unfold F.putS
    split
    · exact h.held rfl
    · exact h.no
set_option maxRecDepth 100000 in
theorem Jz.get {c : Nat} {s : F.Po} (h : Jz c s) (D : dSt) : Jz c (F.getS s D ((0 : Nat) : Int)) := by
  refine ⟨h.nl.get _ _, ?_, ?_, ?_⟩
  · unfold F.getS; split <;> exact h.ct
  · unfold F.getS; split <;> exact h.mo
  · unfold F.getS
    split
    · refine h.held ?_
      unfold F.getF
      cases ha : F.at? s.L ((0 : Nat) : Int) with
      | none => rfl
      | some f => exact (F.at_mem ha).2
    · exact h.no
set_option maxRecDepth 100000 in
theorem Jz.acc {c : Nat} {s : F.Po} (h : Jz c s) : Jz c (F.accS s) := by
  refine ⟨h.nl.acc, h.ct, h.mo, fun g hg => ?_⟩
  obtain ⟨f, hf, rfl⟩ := List.mem_map.1 hg
  have := h.no f hf
  unfold F.acc
  split <;> exact this
set_option maxRecDepth 100000 in
theorem Jz.drop {c : Nat} {s : F.Po} (h : Jz c s) : Jz c (F.dropS s) := by
  refine ⟨h.nl.drop, h.ct, h.mo, fun g hg => ?_⟩
  obtain ⟨f, hf, rfl⟩ := List.mem_map.1 hg
  have := h.no f (List.mem_filter.1 hf).1
  unfold F.drp
  split <;> exact this
set_option maxRecDepth 100000 in
theorem Jz.fl {c : Nat} {s : F.Po} (h : Jz c s) (D : dSt) : Jz c (F.flS s D) := by
  refine ⟨h.nl.fl D, ?_, ?_, ?_⟩
  · unfold F.flS; split <;> exact h.ct
  · unfold F.flS; split <;> exact h.mo
  · unfold F.flS
    split
    · intro g hg
      obtain ⟨f, hf, rfl⟩ := List.mem_map.1 hg
      rw [F.cln_no]
      exact h.no f hf
    · exact h.no
set_option maxRecDepth 100000 in
theorem Jz.len {c : Nat} {s : F.Po} (h : Jz c s) (hg : F.Good s) : s.L.length ≤ 1 := by
  have hn := hg.nd
  have e : s.L.map (·.no) = List.replicate s.L.length 0 := by
    refine List.eq_replicate_iff.2 ⟨List.length_map _, fun x hx => ?_⟩
    obtain ⟨f, hf, rfl⟩ := List.mem_map.1 hx
    exact h.no f hf
  rw [e, List.nodup_replicate] at hn
  exact hn
set_option maxRecDepth 100000 in
theorem Jz.few {c : Nat} {s : F.Po} (h : Jz c s) (hg : F.Good s) (m : F.Fr → Bool) : (F.which s m).length ≤ 1 := by
  unfold F.which
  rw [length_rise, List.length_map]
  exact Nat.le_trans (List.length_filter_le _ _) (h.len hg)
set_option maxRecDepth 100000 in
theorem Jz.maps {c : Nat} {s : F.Po} (h : Jz c s) (h1 : 1 ≤ c) (h2 : c ≤ 1920) : G.cnt s = c ∧ G.maps (G.cnt s) = 1 := by
  have e : G.cnt s = c := by unfold G.cnt; rw [h.ct]; omega
  exact ⟨e, by rw [e]; exact G.maps1 h1 h2⟩
set_option maxRecDepth 100000 in
theorem Jz.alloc {c : Nat} {s : F.Po} (h : Jz c s) (h1 : 1 ≤ c) (h2 : c ≤ 1920) (D : dSt) : Jz c (G.allocG D (G.maps (G.cnt s)) 0 s).2.2 := by
  rw [(h.maps h1 h2).2]
  unfold G.allocG
  split
  · split
    · exact h.get D
    · split
      · exact (h.get D).put _
      · exact (h.get D).put _
  · exact h.get D
set_option maxRecDepth 100000 in
theorem Jz.free {c : Nat} {s : F.Po} (h : Jz c s) (h1 : 1 ≤ c) (h2 : c ≤ 1920) (D : dSt) (no : Int) : Jz c (G.freeG D s no).2 := by
  unfold G.freeG
  split
  · exact h
  · rename_i hn
    have e : no.toNat / 1920 = 0 := by rw [h.ct] at hn; omega
    rw [e]
    split
    · split
      · exact (h.get D).put _
      · exact h.get D
    · exact h.get D
theorem Jz.two {c : Nat} {s : F.Po} (h : Jz c s) (D : dSt) : Jz c (sTwo s D) := (h.get D).get D
end Go.Proofs.YtjlennpoaefllaaGreatDoor

/- Open of a space over a pool that has one map. -/
namespace Go.Proofs.YtjlennpoaefllaaGreatDoor
open Go.RowKit
set_option maxRecDepth 100000 in
set_option maxHeartbeats 4000000 in
theorem sopenZ_ok {w0 w : World} {X : List (Nat × Obj)} {p dp : Nat} {s : F.Po} {D : dSt} {n kk : Nat} (h : LpX w0 w X p dp s D n kk) (hn : n + 1 ≤ 1000000) (hk9 : kk ≤ 900) (hm : G.maps (G.cnt s) = 1) (hz : G.mapE s D 0 = 0) :
    Calls Tryz.prog 55 #[Ptr p] w (fun e w' => ∃ sp Z, e = .returned (.tuple #[Ptr sp, .int .i64 0]) ∧ Hid (LpX w0 w' Z p dp (F.getS s D ((0 : Nat) : Int)) D (n + 1) kk ∧ ∀ x ∈ X, x ∈ Z)) := by
  have hc := h.pok.cnt
  obtain ⟨sp, hsp⟩ : ∃ sp, sp = w.heap.size := ⟨_, rfl⟩
  have h1 : LpX w0 (w.alloc (.cells #[Ptr p] 58)) ((sp, SBox p) :: X) p dp s D n kk := by rw [hsp]; exact h.more ((Touch.refl _ w).alloc _) w.heap.size _ (heap_alloc_new w _) (Nat.le_refl _)
  have H1 := hid (smade_any (h1.spc List.mem_cons_self) hc.1)
  have H2 := smaps_any (h1.spc List.mem_cons_self) hc.2.1
  rw [hm] at H2
  have H2 := hid (show Calls Tryz.prog 36 #[Ptr sp] _ (Tells (.int .i64 1) _) from H2)
  have H3 := hid (show Calls Tryz.prog 70 #[Ptr sp, .int .i64 0] _ (PGm w0 ((sp, SBox p) :: X) p dp (F.getS s D ((0 : Nat) : Int)) D (n + 1) kk (G.mapB s D 0)) from sget_ok h1 List.mem_cons_self hn hk9 (k := 0) (by rw [hm]; decide) hz)
  obtain ⟨wA, hwA⟩ : ∃ wA, wA = w.alloc (.cells #[Ptr p] 58) := ⟨_, rfl⟩
  rw [← hwA] at H1 H2 H3
  obtain ⟨S2, hS2⟩ : ∃ S2, S2 = F.getS s D ((0 : Nat) : Int) := ⟨_, rfl⟩
  rw [← hS2] at H3 ⊢
  unfold Ptr at *
  clear h hc hm hn h1 hz hk9 hS2
  go_enter Tryz.func55, Tryz.ntmps55
  go_upto_region 2 with fail
  rw [← hwA, ← hsp]
  clear hwA hsp
  go_wp2_with (first
    | (go_at_call 35; refine H1.out.mono ?_; rintro e w1 ⟨rfl, hw⟩; rw [hw]; clear hw)
    | (go_at_call 36; refine H2.out.mono ?_; rintro e w1 ⟨rfl, hw⟩; rw [hw]; clear hw))
  go_loopw [16] (fun i wr => ∃ k : Nat, i = .int .i64 (k : Int) ∧ ((k = 0 ∧ wr = wA) ∨ (k = 1 ∧ Hid (∃ Z, LpX w0 wr Z p dp S2 D (n + 1) kk ∧ ∀ x ∈ X, x ∈ Z)))) (fun i _ => 1 - (intOf i).toNat)
  case atStart => exact ⟨0, rfl, .inl ⟨rfl, rfl⟩⟩
  case round =>
    obtain ⟨k, rfl, ⟨rfl, hw⟩ | ⟨rfl, HZ⟩⟩ := hrel
    · rw [hw]
      clear hw
      go_wp2_with (go_at_call 70; refine H3.out.mono ?_; rintro e w3 ⟨g, cap, cur, rfl, H4⟩)
      go_roundw
      case rel => exact ⟨1, by go_num, .inr ⟨rfl, _, H4.out.2.2.1, fun x hx => List.mem_cons_of_mem _ (List.mem_cons_of_mem _ hx)⟩⟩
      case measure => simp [intOf]
    · go_wp2_with fail
      go_ret2
      obtain ⟨Z, hZ⟩ := HZ.out
      exact ⟨sp, Z, rfl, hZ⟩
set_option maxRecDepth 100000 in
set_option maxHeartbeats 4000000 in
theorem sopenZ_bad {w0 w : World} {X : List (Nat × Obj)} {p dp : Nat} {s : F.Po} {D : dSt} {n kk : Nat} (h : LpX w0 w X p dp s D n kk) (hn : n + 1 ≤ 1000000) (hk9 : kk ≤ 900) (hm : G.maps (G.cnt s) = 1) (hz : G.mapE s D 0 ≠ 0) :
    Calls Tryz.prog 55 #[Ptr p] w (fun e w' => ∃ Z, e = .returned (.tuple #[.pointer none, .int .i64 (G.mapE s D 0 : Int)]) ∧ Hid (LpX w0 w' Z p dp (F.getS s D ((0 : Nat) : Int)) D (n + 1) kk ∧ ∀ x ∈ X, x ∈ Z)) := by
  have hc := h.pok.cnt
  obtain ⟨sp, hsp⟩ : ∃ sp, sp = w.heap.size := ⟨_, rfl⟩
  have h1 : LpX w0 (w.alloc (.cells #[Ptr p] 58)) ((sp, SBox p) :: X) p dp s D n kk := by rw [hsp]; exact h.more ((Touch.refl _ w).alloc _) w.heap.size _ (heap_alloc_new w _) (Nat.le_refl _)
  have H1 := hid (smade_any (h1.spc List.mem_cons_self) hc.1)
  have H2 := smaps_any (h1.spc List.mem_cons_self) hc.2.1
  rw [hm] at H2
  have H2 := hid (show Calls Tryz.prog 36 #[Ptr sp] _ (Tells (.int .i64 1) _) from H2)
  have H3 := hid (show Calls Tryz.prog 70 #[Ptr sp, .int .i64 0] _ (PGn w0 ((sp, SBox p) :: X) p dp (F.getS s D ((0 : Nat) : Int)) D (n + 1) kk (G.mapE s D 0)) from sget_bad h1 List.mem_cons_self hn hk9 (k := 0) (by rw [hm]; decide) hz)
  obtain ⟨wA, hwA⟩ : ∃ wA, wA = w.alloc (.cells #[Ptr p] 58) := ⟨_, rfl⟩
  rw [← hwA] at H1 H2 H3
  obtain ⟨S2, hS2⟩ : ∃ S2, S2 = F.getS s D ((0 : Nat) : Int) := ⟨_, rfl⟩
  obtain ⟨z, hzz⟩ : ∃ z, z = G.mapE s D 0 := ⟨_, rfl⟩
  rw [← hS2, ← hzz] at H3
  rw [← hS2, ← hzz]
  have hzi : decide ((z : Int) = 0) = false := by rw [hzz]; simp; omega
  have hzi2 : ¬ (z : Int) = 0 := by rw [hzz]; omega
  unfold Ptr at *
  clear h hc hm hn h1 hz hk9 hS2 hzz
  go_enter Tryz.func55, Tryz.ntmps55
  go_upto_region 2 with fail
  rw [← hwA, ← hsp]
  clear hwA hsp
  go_wp2_with (first
    | (go_at_call 35; refine H1.out.mono ?_; rintro e w1 ⟨rfl, hw⟩; rw [hw]; clear hw)
    | (go_at_call 36; refine H2.out.mono ?_; rintro e w1 ⟨rfl, hw⟩; rw [hw]; clear hw))
  go_loopw [16] (fun i wr => i = .int .i64 0 ∧ wr = wA) (fun i _ => 1 - (intOf i).toNat)
  case atStart => exact ⟨rfl, rfl⟩
  case round =>
    obtain ⟨rfl, hw⟩ := hrel
    rw [hw]
    clear hw
    go_wp2_with (go_at_call 70; refine H3.out.mono ?_; rintro e w3 ⟨rfl, H4⟩)
    go_ret2
    exact ⟨_, rfl, H4.out, fun x hx => List.mem_cons_of_mem _ hx⟩
section
variable {w0 w : World} {X : List (Nat × Obj)} {p d q r : Nat} {s s' : F.Po} {D D' : dSt} {n k : Nat}
set_option maxRecDepth 100000 in
theorem pw_open (h : PwE w0 w X p d q r s s' D D' n k) (hn : n + 1 ≤ 1000000) (hk9 : k ≤ 900) (hm : G.maps (G.cnt s) = 1) (z : Nat) (hz : z = G.mapE s D 0) :
    Calls Tryz.prog 55 #[Ptr p] w (fun e w' => (∃ v, e = .returned (.tuple #[v, .int .i64 (z : Int)]) ∧ ((z = 0 ∧ ∃ l, v = Ptr l) ∨ (z ≠ 0 ∧ v = .pointer none))) ∧ Hid (PwE w0 w' X p d q r (F.getS s D ((0 : Nat) : Int)) s' D D' (n + 1) k)) := by
  obtain ⟨Y, hL, ap, _, hback⟩ := h.lpy
  subst hz
  by_cases hz : G.mapE s D 0 = 0
  · rw [hz]
    refine (sopenZ_ok hL hn hk9 hm hz).mono ?_
    rintro e w' ⟨sp, Z, he, H⟩
    exact ⟨⟨_, he, .inl ⟨rfl, sp, rfl⟩⟩, hback w' Z _ _ _ _ H.out.1 (fun x hx => H.out.2 x (List.mem_append_right _ hx)) X (fun x hx => ⟨H.out.2 x (List.mem_append_left _ hx), fun y hy => ap y hy x hx⟩)⟩
  · refine (sopenZ_bad hL hn hk9 hm hz).mono ?_
    rintro e w' ⟨Z, he, H⟩
    exact ⟨⟨_, he, .inr ⟨hz, rfl⟩⟩, hback w' Z _ _ _ _ H.out.1 (fun x hx => H.out.2 x (List.mem_append_right _ hx)) X (fun x hx => ⟨H.out.2 x (List.mem_append_left _ hx), fun y hy => ap y hy x hx⟩)⟩
end
end Go.Proofs.YtjlennpoaefllaaGreatDoor
