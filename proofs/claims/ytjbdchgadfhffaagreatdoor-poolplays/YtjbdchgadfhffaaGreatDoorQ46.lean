/- Texts put together: FQ8, FQ9. -/
import Derived.Test.YtjbdchgadfhffaaGreatDoorQ45
import Derived.Test.YtjbdchgadfhffaaGreatDoorQ41
/- The reference's call Flush. -/
namespace Go.Proofs.YtjbdchgadfhffaaGreatDoor
open Go.RowKit

/-- What Flush leaves. -/
def PQF (w : World) (O OR : Nat → Prop) (q r : Nat) (s : F.Po) (D : dSt) (z : Int) (e : Ending) (w' : World) : Prop := e = .returned (.int .i64 z) ∧ Hid (IsQ w' O q r s ∧ ∃ OR', IsRO w' OR' r D ∧ Touch (fun k => O k ∨ OR k) w w' ∧ ∀ k, OR' k → OR k ∨ (w.heap.size ≤ k ∧ k < w'.heap.size))
/-- On the way through the writes. -/
structure QWay (w wr : World) (O OR : Nat → Prop) (q r : Nat) (s : F.Po) (lv : Value) (zs : List Int) (D0 : dSt) (k0 i : Nat) : Prop where
  q : QAt wr O q r s lv
  disk : ∃ D' O', IsRO wr O' r D' ∧ (∀ k, O' k → OR k ∨ (w.heap.size ≤ k ∧ k < wr.heap.size)) ∧ DOk D' (k0 + i) ∧ D'.size = D0.size ∧ goW (F.wrs s zs) (zs.length - i) i D' = goW (F.wrs s zs) zs.length 0 D0
  touch : Touch OR w wr
set_option maxRecDepth 100000 in
set_option maxHeartbeats 4000000 in
theorem qflush_any {w : World} {O OR : Nat → Prop} {q r : Nat} {s : F.Po} {D : dSt} {k0 : Nat} (h : IsQ w O q r s) (hr : IsRO w OR r D) (hk : DOk D k0) (hap : ∀ k, O k → ¬ OR k) (hlt : ∀ k, O k ∨ OR k → k < w.heap.size) (hg : F.Good s) (hok : POk s D) (hk9 : k0 + (F.which s F.isDirty).length ≤ 890) :
    Calls Tryz.prog 28 #[Ptr q] w (PQF w O OR q r (F.flS s D) (F.flX s D).2 (F.flX s D).1) := by
  obtain ⟨lv, h⟩ := h
  have hl : s.L.length ≤ 9000 := by have := hg.len; have := hok.mo2; omega
  obtain ⟨n, hn⟩ : ∃ n : Nat, s.ct = (n : Int) := ⟨s.ct.toNat, by have := hok.ct1; omega⟩
  have hn2 : n ≤ 10000 := by have := hok.fit; have := hok.size; have := hok.fr0; omega
  have HW1 := hid (show Calls Tryz.prog 36 #[.pointer (some ⟨q, 0, none⟩), .int .i64 1] w (PNums w (F.which s F.isFresh)) by rw [← F.nums_which hg F.isFresh hn.symm]; exact qwhere_any h (by omega) n hn hn2 1 F.isFresh (.inr (.inl ⟨rfl, rfl⟩)))
  have HW2 := hid (fun w' (hA : Adds w w') => show Calls Tryz.prog 36 #[.pointer (some ⟨q, 0, none⟩), .int .i64 2] w' (PNums w' (F.which s F.isDirty)) by rw [← F.nums_which hg F.isDirty hn.symm]; exact qwhere_any (h.adds hA) (by omega) n hn hn2 2 F.isDirty (.inr (.inr ⟨rfl, rfl⟩)))
  have HSame := hid (fun w' (hA : Adds w w') (z : Int) => show PQF w O OR q r s D z (.returned (.int .i64 z)) w' from ⟨rfl, ⟨lv, h.adds hA⟩, OR, hr.adds hA, hA.mono (fun _ _ c => c.elim), fun _ c => .inl c⟩)
  unfold Ptr at *
  by_cases hq : F.which s F.isFresh = []
  · rw [hq] at HW1
    by_cases hq2 : F.which s F.isDirty = []
    · have e1 : F.flX s D = (0, D) := by unfold F.flX; rw [if_pos hq, if_pos hq2]
      have e2 : F.flS s D = s := by
        unfold F.flS
        rw [e1, if_pos rfl]
        have : s.L.map F.cln = s.L := by
          conv => rhs; rw [← List.map_id s.L]
          refine List.map_congr_left (fun f hf => ?_)
          have a1 := F.which_nil hq f hf
          have a2 := F.which_nil hq2 f hf
          unfold F.isFresh at a1
          unfold F.isDirty at a2
          unfold F.cln
          rw [a1]
          cases f
          simp_all
        rw [this]
      rw [e1, e2]
      rw [hq2] at HW2
      clear h hr hk hap hlt hg hok hk9 hq hq2 e1 e2 hl hn
      go_enter Tryz.func28, Tryz.ntmps28
      go_upto_region 3 with (first
        | (go_at_call 36; refine HW1.out.mono ?_; rintro e w1 ⟨v1, rfl, H1⟩; obtain ⟨a1, k1, rfl, _⟩ := row_get H1.out.1))
      go_wp2_with (first
        | (go_at_call 36; refine (HW2.out w1 H1.out.2).mono ?_; rintro e w2 ⟨v2, rfl, H2⟩; obtain ⟨a2, k2, rfl, _⟩ := row_get H2.out.1))
      go_ret
      exact HSame.out w2 (H1.out.2.trans H2.out.2) 0
    · obtain ⟨zs, hzs⟩ : ∃ zs, zs = F.which s F.isDirty := ⟨_, rfl⟩
      have e1 : F.flX s D = goW (F.wrs s zs) zs.length 0 D := by unfold F.flX; rw [if_pos hq, if_neg hq2, hzs]
      have HFs := hid (show F.flS s D = if (goW (F.wrs s zs) zs.length 0 D).1 = 0 then { s with L := s.L.map F.cln } else s by unfold F.flS; rw [e1])
      rw [e1]
      rw [← hzs] at HW2 hk9 hq2
      have HNf := hid (F.which_nil hq)
      have HZ := hid hzs
      have hlz : 0 < zs.length := List.length_pos_iff.2 hq2
      have HQ := hid h
      have HD := hid hr
      have HK := hid (And.intro hk hk9)
      have HAp := hid hap
      have HLt := hid hlt
      have HG := hid hg
      have HOk := hid hok
      have HFd := hid (fun w' (hQ : QAt w' O q r s lv) (z : Int) (x : Int) (hx : x = F.idx s.L z) => show Calls Tryz.prog 56 #[.pointer (some ⟨q, 0, none⟩), .int .i64 z] w' (Tells (.int .i64 x) w') by rw [hx]; exact qfind_any hQ z (by omega))
      have HSL := hid hl
      clear h hr hk hap hlt hg hok hk9 hq hq2 e1 hzs hn hl
      obtain ⟨X, hX⟩ : ∃ X, X = goW (F.wrs s zs) zs.length 0 D := ⟨_, rfl⟩
      rw [← hX] at HFs ⊢
      have HX := hid hX
      clear hX
      obtain ⟨zl, hzl⟩ : ∃ zl, zl = zs.length := ⟨_, rfl⟩
      have HZL := hid hzl
      rw [← hzl] at hlz HK HX
      go_enter Tryz.func28, Tryz.ntmps28
      go_upto_region 3 with (first
        | (go_at_call 36; refine HW1.out.mono ?_; rintro e w1 ⟨v1, rfl, H1⟩; obtain ⟨a1, k1, rfl, _⟩ := row_get H1.out.1))
      go_upto_region 4 with (first
        | (go_at_call 36; refine (HW2.out w1 H1.out.2).mono ?_; rintro e w2 ⟨v2, rfl, H2⟩))
      obtain ⟨la, lc, rfl, hget⟩ := row_get H2.out.1
      have HA2 := hid (H1.out.2.trans H2.out.2)
      have HGet := hid (fun i (hi : i < zs.length) => show ∃ b o, la = some ⟨b, o, none⟩ ∧ w.heap.size ≤ b ∧ w2.cell? ⟨b, o + i, none⟩ = some (.int .i64 zs[i]) by
        obtain ⟨b, o, e1, e2, e3⟩ := hget i hi
        have := (row_low H2.out.1 e2).1
        have := H1.out.2.size
        exact ⟨b, o, e1, by omega, e3⟩)
      rw [← hzl]
      clear hget hzl
      have hnz : ¬ (zl : Int) = 0 := by omega
      have hnz' : ((zl : Int) == 0) = false := by simpa using hnz
      have hzl9 : zl ≤ 890 := by have := HK.out.2; omega
      have HI0 : Hid (QWay w2 w2 O OR q r s lv zs D k0 0) := ⟨HQ.out.adds HA2.out, ⟨D, OR, HD.out.adds HA2.out, fun _ c => .inl c, HK.out.1, rfl, rfl⟩, Touch.refl _ _⟩
      go_wp2_with fail
      go_loopw [4] (fun iv wr => ∃ i : Nat, iv = .int .i64 (i : Int) ∧ i ≤ zl ∧ Hid (QWay w2 wr O OR q r s lv zs D k0 i)) (fun iv _ => zl - (intOf iv).toNat)
      case atStart => exact ⟨0, rfl, Nat.zero_le _, HI0.out⟩
      case round =>
        obtain ⟨i, rfl, hi, HI⟩ := hrel
        by_cases hlt : i < zl
        · have hltz : (i : Int) < (zl : Int) := by omega
          have hlt' : i < zs.length := by rw [← HZL.out]; exact hlt
          obtain ⟨lb, lo, ea, hlb, hcz⟩ := HGet.out i hlt'
          obtain ⟨z, hz⟩ : ∃ z, z = zs[i] := ⟨_, rfl⟩
          rw [← hz] at hcz
          have hlbOR : ¬ OR lb := fun c => by have := HLt.out lb (.inr c); omega
          have dz : wr.cell? ⟨lb, lo + i, none⟩ = some (.int .i64 z) := by rw [World.cell?_of_block (w := w2) (HI.out.touch.block lb (World.block_lt_of_cell? _ _ hcz) hlbOR)]; exact hcz
          have hlb2 : lb < w2.heap.size := World.block_lt_of_cell? _ _ hcz
          subst ea
          obtain ⟨f0, hf0, hd0, hn0⟩ := F.mem_which.1 (show z ∈ F.which s F.isDirty by rw [← HZ.out, hz]; exact List.getElem_mem hlt')
          rcases F.idx_is s.L z with ⟨j, hj, ej, hjn, hja⟩ | ⟨_, _, hall⟩
          case inr => exact absurd hn0 (hall f0 hf0)
          obtain ⟨f, hf⟩ : ∃ f, f = s.L[j] := ⟨_, rfl⟩
          have HFd2 := hid (fun w' (hQ : QAt w' O q r s lv) => HFd.out w' hQ z (j : Int) ej.symm)
          obtain ⟨ao, ca, elv, hcap, hat⟩ := HI.out.q.at'
          obtain ⟨g, eao, hob, hcc, hfz⟩ := hat (by omega)
          subst eao
          obtain ⟨sl, hsl⟩ : ∃ sl, sl = s.L.length := ⟨_, rfl⟩
          have d4 : wr.cell? ⟨q, 4, none⟩ = some (.slice (some ⟨g, 0, none⟩) sl ca) := by have c := cellOf HI.out.q.box 4; rw [elv] at c; rw [hsl]; exact c
          have dn : wr.cell? ⟨g, j * 5 + 1, none⟩ = some (.string ⟨f.now.toArray⟩) := by rw [hf]; exact hcc j hj 1 (by omega)
          have hjl : j < sl := by rw [hsl]; exact hj
          have hsl9 : sl ≤ 9000 := by rw [hsl]; exact HSL.out
          have hfL : f ∈ s.L := by rw [hf]; exact List.getElem_mem hj
          obtain ⟨p, hRp, hpn⟩ := HG.out.pgs f hfL
          have HRd := hid hRp
          have HLn := hid ((M.read_ok hRp).2.1)
          have hno := HG.out.nos f hfL
          have hfn : f.no = z := by rw [hf]; exact hjn
          have HF := hid (show F.wrs s zs i = (s.fr + z, sealed (f.now.take 252)) by
            unfold F.wrs F.flD
            have hgz : zs.getD i 0 = z := by rw [hz, List.getD_eq_getElem?_getD, List.getElem?_eq_getElem hlt']; rfl
            rw [hgz, hja, ← hf]
            show (s.fr + z, M.sealP f.now) = _
            rw [sealP_some hRp])
          have hwr : wrap64 (s.fr + z) = s.fr + z := by rw [← hfn]; have := HOk.out.fr0; have := HOk.out.fit; have := HOk.out.size; simp [wrap64]; omega
          have hwi : IntKind.i64.wrap (s.fr + z) = s.fr + z := by rw [IntKind.wrap_i64, ← hfn]; have := HOk.out.fr0; have := HOk.out.fit; have := HOk.out.size; omega
          have HIx := hid (show 0 ≤ s.fr + z ∧ s.fr + z < D.size by rw [← hfn]; have := HOk.out.fr0; have := HOk.out.fit; omega)
          obtain ⟨D', O', hD', hO', hK', hS', hG'⟩ := HI.out.disk
          have HD' := hid hD'
          have HE := hid (And.intro hO' (And.intro hK' (And.intro hS' hG')))
          have HFd := HFd2
          have HLb := hid (And.intro hlb hlb2)
          clear hat hcc hfz hob elv hcap hsl hf hfL hRp hpn hno hfn hz hja hjn ej hf0 hd0 hn0 hD' hO' hK' hS' hG' hcz HFd2 hlbOR hlb hlb2
          go_upto_region 9 with fail
          go_cut [5] from 19 to 61 (fun t5 w' => ∃ sg sk, t5 = .slice (some ⟨sg, 0, none⟩) 256 sk ∧ Hid (At w' (some ⟨sg, 0, none⟩) (sealed (f.now.take 252)) ∧ (sealed (f.now.take 252)).length = 256 ∧ wr.heap.size ≤ sg ∧ Adds wr w'))
          case first =>
            refine H_begin (S := fun w' : World => Adds wr w') (by kernel_rfl) ?_
            have hS : (fun w' : World => Adds wr w') wr.drew := (Touch.refl _ wr).drew
            refine H_put (i := 0) 26 (v := .pointer (some ⟨q, 0, none⟩)) rfl rfl (by kernel_rfl) (by kernel_rfl) (by kernel_rfl) (fun _ _ _ h => h) (Or.inl ⟨by rfl, fun w' hw' => ?_⟩) hS ?_
            · rfl
            simp only [Act.put, List.setIfInBounds_toArray, List.set_cons_zero, List.set_cons_succ]
            refine H_put (i := 1) 27 (v := .pointer (some ⟨q, 0, none⟩)) rfl rfl (by kernel_rfl) (by kernel_rfl) (by kernel_rfl) (fun _ _ _ h => h) (Or.inl ⟨by rfl, fun w' hw' => ?_⟩) hS ?_
            · go_simp
            simp only [Act.put, List.setIfInBounds_toArray, List.set_cons_zero, List.set_cons_succ]
            refine H_put (i := 2) 28 (v := .pointer (some ⟨q, 4, none⟩)) rfl rfl (by kernel_rfl) (by kernel_rfl) (by kernel_rfl) (fun _ _ _ h => h) (Or.inl ⟨by rfl, fun w' hw' => ?_⟩) hS ?_
            · go_simp
            simp only [Act.put, List.setIfInBounds_toArray, List.set_cons_zero, List.set_cons_succ]
            refine H_put (i := 3) 29 (v := .slice (some ⟨g, 0, none⟩) sl ca) rfl rfl (by kernel_rfl) (by kernel_rfl) (by kernel_rfl) (fun _ _ _ h => h) (Or.inl ⟨by rfl, fun w' hw' => ?_⟩) hS ?_
            · (have c := below_adds hw' d4; clear hw'; go_simp)
            simp only [Act.put, List.setIfInBounds_toArray, List.set_cons_zero, List.set_cons_succ]
            refine H_put (i := 4) 30 (v := .pointer (some ⟨q, 0, none⟩)) rfl rfl (by kernel_rfl) (by kernel_rfl) (by kernel_rfl) (fun _ _ _ h => h) (Or.inl ⟨by rfl, fun w' hw' => ?_⟩) hS ?_
            · rfl
            simp only [Act.put, List.setIfInBounds_toArray, List.set_cons_zero, List.set_cons_succ]
            refine H_put (i := 5) 31 (v := .slice (some ⟨lb, lo, none⟩) zl lc) rfl rfl (by kernel_rfl) (by kernel_rfl) (by kernel_rfl) (fun _ _ _ h => h) (Or.inl ⟨by rfl, fun w' hw' => ?_⟩) hS ?_
            · rfl
            simp only [Act.put, List.setIfInBounds_toArray, List.set_cons_zero, List.set_cons_succ]
            refine H_put (i := 6) 32 (v := .int .i64 (i : Int)) rfl rfl (by kernel_rfl) (by kernel_rfl) (by kernel_rfl) (fun _ _ _ h => h) (Or.inl ⟨by rfl, fun w' hw' => ?_⟩) hS ?_
            · rfl
            simp only [Act.put, List.setIfInBounds_toArray, List.set_cons_zero, List.set_cons_succ]
            refine H_put (i := 7) 33 (v := .pointer (some ⟨lb, lo + i, none⟩)) rfl rfl (by kernel_rfl) (by kernel_rfl) (by kernel_rfl) (fun _ _ _ h => h) (Or.inl ⟨by rfl, fun w' hw' => ?_⟩) hS ?_
            · go_simp
            simp only [Act.put, List.setIfInBounds_toArray, List.set_cons_zero, List.set_cons_succ]
            refine H_put (i := 8) 34 (v := .int .i64 z) rfl rfl (by kernel_rfl) (by kernel_rfl) (by kernel_rfl) (fun _ _ _ h => h) (Or.inl ⟨by rfl, fun w' hw' => ?_⟩) hS ?_
            · (have c := below_adds hw' dz; clear hw'; go_simp)
            simp only [Act.put, List.setIfInBounds_toArray, List.set_cons_zero, List.set_cons_succ]
            refine H_call (i := 9) 35 56 #[.pointer (some ⟨q, 0, none⟩), .int .i64 z] (by kernel_rfl) rfl rfl (by rfl) (by go_simp) (HFd.out wr.drew (HI.out.q.adds (Touch.refl _ wr).drew)) ?_
            rintro e _ ⟨rfl, hw⟩
            rw [hw]
            clear hw
            have hS2 : (fun w' : World => Adds wr w') _ := hS
            refine ⟨_, _, rfl, hS2, fun w' h => h, ?_⟩
            clear hS; have hS := hS2; clear hS2
            simp only [Act.put, List.setIfInBounds_toArray, List.set_cons_zero, List.set_cons_succ]
            refine H_put (i := 10) 36 (v := .pointer (some ⟨g, j * 5, none⟩)) rfl rfl (by kernel_rfl) (by kernel_rfl) (by kernel_rfl) (fun _ _ _ h => h) (Or.inl ⟨by rfl, fun w' hw' => ?_⟩) hS ?_
            · go_simp
            simp only [Act.put, List.setIfInBounds_toArray, List.set_cons_zero, List.set_cons_succ]
            refine H_put (i := 11) 37 (v := .pointer (some ⟨g, j * 5 + 1, none⟩)) rfl rfl (by kernel_rfl) (by kernel_rfl) (by kernel_rfl) (fun _ _ _ h => h) (Or.inl ⟨by rfl, fun w' hw' => ?_⟩) hS ?_
            · go_simp
            simp only [Act.put, List.setIfInBounds_toArray, List.set_cons_zero, List.set_cons_succ]
            refine H_put (i := 12) 38 (v := .string ⟨f.now.toArray⟩) rfl rfl (by kernel_rfl) (by kernel_rfl) (by kernel_rfl) (fun _ _ _ h => h) (Or.inl ⟨by rfl, fun w' hw' => ?_⟩) hS ?_
            · (have c := below_adds hw' dn; clear hw'; go_simp)
            simp only [Act.put, List.setIfInBounds_toArray, List.set_cons_zero, List.set_cons_succ]
            obtain ⟨sc, w5, hcv, hsc, hat5, hA5⟩ := str_256Q f.now HLn.out wr.drew
            have hA5' : Adds wr w5 := (show Adds wr wr.drew from (Touch.refl _ wr).drew).trans hA5
            refine H_do (i := 13) (some 39) (by kernel_rfl) rfl rfl (by rfl) (fun K hK => ?_)
            have hcv2 : (convert 9 37 (.string ⟨f.now.toArray⟩)).run Tryz.prog wr.drew = .ok (.slice (some ⟨wr.heap.size, 0, none⟩) 256 sc) w5 := hcv
            go_simp
            refine hK _ _ hA5' ?_
            clear hK K hcv hcv2 hS
            have hS : (fun w' : World => Adds wr w') w5 := hA5'
            simp only [Act.put, List.setIfInBounds_toArray, List.set_cons_zero, List.set_cons_succ]
            refine H_call (i := 14) 40 60 #[.slice (some ⟨wr.heap.size, 0, none⟩) 256 sc] (R := PSealed w5 (sealed (f.now.take 252))) (by kernel_rfl) rfl rfl (by rfl) (by go_simp) (rseal9_some HRd.out (some ⟨wr.heap.size, 0, none⟩) sc w5 HLn.out hsc hat5) ?_
            rintro e w6 ⟨sg, sk, rfl, H6⟩
            have HA6 := hid (show Adds wr w6 from Touch.trans hS H6.out.2.2.2.2)
            have hS2 : (fun w' : World => Adds wr w') _ := HA6.out
            refine ⟨_, _, rfl, hS2, fun w' h => h, ?_⟩
            clear hS; have hS := hS2; clear hS2
            simp only [Act.put, List.setIfInBounds_toArray, List.set_cons_zero, List.set_cons_succ]
            refine H_put (i := 15) 25 (v := .tuple #[.slice (some ⟨sg, 0, none⟩) 256 sk, .int .i64 0]) rfl rfl (by kernel_rfl) (by kernel_rfl) (by kernel_rfl) (fun _ _ _ h => h) (Or.inl ⟨by rfl, fun w' hw' => ?_⟩) hS ?_
            · go_simp
            simp only [Act.put, List.setIfInBounds_toArray, List.set_cons_zero, List.set_cons_succ]
            refine H_put (i := 16) 41 (v := .slice (some ⟨sg, 0, none⟩) 256 sk) rfl rfl (by kernel_rfl) (by kernel_rfl) (by kernel_rfl) (fun _ _ _ h => h) (Or.inl ⟨by rfl, fun w' hw' => ?_⟩) hS ?_
            · go_simp
            simp only [Act.put, List.setIfInBounds_toArray, List.set_cons_zero, List.set_cons_succ]
            refine H_put (i := 17) 42 (v := .int .i64 0) rfl rfl (by kernel_rfl) (by kernel_rfl) (by kernel_rfl) (fun _ _ _ h => h) (Or.inl ⟨by rfl, fun w' hw' => ?_⟩) hS ?_
            · go_simp
            simp only [Act.put, List.setIfInBounds_toArray, List.set_cons_zero, List.set_cons_succ]
            refine H_put (i := 18) 5 (v := .slice (some ⟨sg, 0, none⟩) 256 sk) rfl rfl (by kernel_rfl) (by kernel_rfl) (by kernel_rfl) (fun _ _ _ h => h) (Or.inl ⟨by rfl, fun w' hw' => ?_⟩) hS ?_
            · go_simp
            simp only [Act.put, List.setIfInBounds_toArray, List.set_cons_zero, List.set_cons_succ]
            refine H_put (i := 19) 6 (v := .int .i64 0) rfl rfl (by kernel_rfl) (by kernel_rfl) (by kernel_rfl) (fun _ _ _ h => h) (Or.inl ⟨by rfl, fun w' hw' => ?_⟩) hS ?_
            · go_simp
            simp only [Act.put, List.setIfInBounds_toArray, List.set_cons_zero, List.set_cons_succ]
            refine wpAnyH_done (by kernel_rfl) ?_ _
            go_wp2
            go_meet
            case rel =>
              refine ⟨sg, sk, rfl, At.own H6.out.2.2.2.1, H6.out.2.1, ?_, HA6.out⟩
              have := H6.out.1
              have := hA5'.size
              omega
          case rest =>
          rename World => wc
          obtain ⟨sg, sk, rfl, HC⟩ := hcut
          obtain ⟨sb, hsb⟩ : ∃ sb, sb = sealed (f.now.take 252) := ⟨_, rfl⟩
          rw [← hsb] at HC HF
          clear hsb
          have hQc := HI.out.q.adds HC.out.2.2.2
          have HPt := hid (fun w' (hA : Adds wc w') => show Calls Tryz.prog 61 #[.pointer (some ⟨r, 0, none⟩), .int .i64 (s.fr + z), .string ⟨sb.toArray⟩] w' (PRo w' O' r (if D'.left = 0 then (10, D') else (0, D'.wrote (s.fr + z) sb))) from ro_put ((HD'.out.adds HC.out.2.2.2).adds hA) HE.out.2.1 (by have := HK.out.2; omega) (s.fr + z) (by rw [HE.out.2.2.1]; exact HIx.out) sb HC.out.2.1)
          have HCv := hid (fun (w' : World) (h : At w' (some ⟨sg, 0, none⟩) sb) => show (convert 37 9 (.slice (some ⟨sg, 0, none⟩) 256 sk)).run Tryz.prog w' = .ok (.string ⟨sb.toArray⟩) w' by
            have q := conv_at w' (some ⟨sg, 0, none⟩) sb sk h
            rw [HC.out.2.1] at q
            exact q)
          have HnO := hid (show ∀ k, O k → ¬ O' k from fun k hk c => by
            rcases HE.out.1 k c with c | c
            · exact HAp.out k hk c
            · have := HLt.out k (.inl hk); have := HA2.out.size; omega)
          have HnL := hid (show ¬ O' lb from fun c => by
            rcases HE.out.1 lb c with c | c
            · have := HLt.out lb (.inr c); have := HLb.out; omega
            · have := HLb.out; omega)
          have HnG := hid (show ¬ O' sg from fun c => by
            have h1 := HC.out.2.2.1
            have h2 := HI.out.touch.size
            have h3 := HA2.out.size
            rcases HE.out.1 sg c with c | c
            · have := HLt.out sg (.inr c); omega
            · omega)
          obtain ⟨E, hE⟩ : ∃ E : Int × dSt, E = (if D'.left = 0 then (10, D') else (0, D'.wrote (s.fr + z) sb)) := ⟨_, rfl⟩
          rw [← hE] at HPt
          have HEe := hid hE
          obtain ⟨ez, hez⟩ : ∃ ez, ez = E.1 := ⟨_, rfl⟩
          have HPt := hid (fun w' (hA : Adds wc w') => show Calls Tryz.prog 61 #[.pointer (some ⟨r, 0, none⟩), .int .i64 (s.fr + z), .string ⟨sb.toArray⟩] w' (fun e w'' => e = .returned (.int .i64 ez) ∧ Hid (∃ O8, IsRO w'' O8 r E.2 ∧ Touch O' w' w'' ∧ ∀ k, O8 k → O' k ∨ (w'.heap.size ≤ k ∧ k < w''.heap.size))) by rw [hez]; exact HPt.out w' hA)
          have HEz := hid hez
          clear hE hez
          have HS0 := hid (show (fun w' : World => w'.heap[q]? = some (QBox r s lv) ∧ w'.cell? ⟨lb, lo + i, none⟩ = some (.int .i64 z) ∧ At w' (some ⟨sg, 0, none⟩) sb) wc.drew from ⟨hQc.box, below_adds HC.out.2.2.2 dz, HC.out.1.adds (Touch.refl _ wc).drew⟩)
          clear hQc d4 dn
          go_upto_region 10 with fail
          go_cut [7] from 19 to 61 (fun t7 w' => t7 = .int .i64 ez ∧ Hid (∃ O8, IsRO w' O8 r E.2 ∧ Touch O' wc w' ∧ ∀ k, O8 k → O' k ∨ (wc.heap.size ≤ k ∧ k < w'.heap.size)))
          case first =>
            refine H_begin (S := fun w' : World => w'.heap[q]? = some (QBox r s lv) ∧ w'.cell? ⟨lb, lo + i, none⟩ = some (.int .i64 z) ∧ At w' (some ⟨sg, 0, none⟩) sb) (by kernel_rfl) ?_
            have hS : (fun w' : World => w'.heap[q]? = some (QBox r s lv) ∧ w'.cell? ⟨lb, lo + i, none⟩ = some (.int .i64 z) ∧ At w' (some ⟨sg, 0, none⟩) sb) wc.drew := HS0.out
            refine H_put (i := 0) 43 (v := .pointer (some ⟨q, 0, none⟩)) rfl rfl (by kernel_rfl) (by kernel_rfl) (by kernel_rfl) (fun _ _ _ h => h) (Or.inl ⟨by rfl, fun w' hw' => ?_⟩) hS ?_
            · rfl
            simp only [Act.put, List.setIfInBounds_toArray, List.set_cons_zero, List.set_cons_succ]
            refine H_put (i := 1) 44 (v := .pointer (some ⟨q, 0, none⟩)) rfl rfl (by kernel_rfl) (by kernel_rfl) (by kernel_rfl) (fun _ _ _ h => h) (Or.inl ⟨by rfl, fun w' hw' => ?_⟩) hS ?_
            · go_simp
            simp only [Act.put, List.setIfInBounds_toArray, List.set_cons_zero, List.set_cons_succ]
            refine H_put (i := 2) 45 (v := .pointer (some ⟨q, 0, none⟩)) rfl rfl (by kernel_rfl) (by kernel_rfl) (by kernel_rfl) (fun _ _ _ h => h) (Or.inl ⟨by rfl, fun w' hw' => ?_⟩) hS ?_
            · go_simp
            simp only [Act.put, List.setIfInBounds_toArray, List.set_cons_zero, List.set_cons_succ]
            refine H_put (i := 3) 46 (v := .pointer (some ⟨r, 0, none⟩)) rfl rfl (by kernel_rfl) (by kernel_rfl) (by kernel_rfl) (fun _ _ _ h => h) (Or.inl ⟨by rfl, fun w' hw' => ?_⟩) hS ?_
            · (have c := cellOf hw'.1 0; clear hw'; go_simp)
            simp only [Act.put, List.setIfInBounds_toArray, List.set_cons_zero, List.set_cons_succ]
            refine H_put (i := 4) 47 (v := .pointer (some ⟨q, 0, none⟩)) rfl rfl (by kernel_rfl) (by kernel_rfl) (by kernel_rfl) (fun _ _ _ h => h) (Or.inl ⟨by rfl, fun w' hw' => ?_⟩) hS ?_
            · rfl
            simp only [Act.put, List.setIfInBounds_toArray, List.set_cons_zero, List.set_cons_succ]
            refine H_put (i := 5) 48 (v := .pointer (some ⟨q, 0, none⟩)) rfl rfl (by kernel_rfl) (by kernel_rfl) (by kernel_rfl) (fun _ _ _ h => h) (Or.inl ⟨by rfl, fun w' hw' => ?_⟩) hS ?_
            · go_simp
            simp only [Act.put, List.setIfInBounds_toArray, List.set_cons_zero, List.set_cons_succ]
            refine H_put (i := 6) 49 (v := .pointer (some ⟨q, 1, none⟩)) rfl rfl (by kernel_rfl) (by kernel_rfl) (by kernel_rfl) (fun _ _ _ h => h) (Or.inl ⟨by rfl, fun w' hw' => ?_⟩) hS ?_
            · go_simp
            simp only [Act.put, List.setIfInBounds_toArray, List.set_cons_zero, List.set_cons_succ]
            refine H_put (i := 7) 50 (v := .int .i64 s.fr) rfl rfl (by kernel_rfl) (by kernel_rfl) (by kernel_rfl) (fun _ _ _ h => h) (Or.inl ⟨by rfl, fun w' hw' => ?_⟩) hS ?_
            · (have c := cellOf hw'.1 1; clear hw'; go_simp)
            simp only [Act.put, List.setIfInBounds_toArray, List.set_cons_zero, List.set_cons_succ]
            refine H_put (i := 8) 51 (v := .slice (some ⟨lb, lo, none⟩) zl lc) rfl rfl (by kernel_rfl) (by kernel_rfl) (by kernel_rfl) (fun _ _ _ h => h) (Or.inl ⟨by rfl, fun w' hw' => ?_⟩) hS ?_
            · rfl
            simp only [Act.put, List.setIfInBounds_toArray, List.set_cons_zero, List.set_cons_succ]
            refine H_put (i := 9) 52 (v := .int .i64 (i : Int)) rfl rfl (by kernel_rfl) (by kernel_rfl) (by kernel_rfl) (fun _ _ _ h => h) (Or.inl ⟨by rfl, fun w' hw' => ?_⟩) hS ?_
            · rfl
            simp only [Act.put, List.setIfInBounds_toArray, List.set_cons_zero, List.set_cons_succ]
            refine H_put (i := 10) 53 (v := .pointer (some ⟨lb, lo + i, none⟩)) rfl rfl (by kernel_rfl) (by kernel_rfl) (by kernel_rfl) (fun _ _ _ h => h) (Or.inl ⟨by rfl, fun w' hw' => ?_⟩) hS ?_
            · go_simp
            simp only [Act.put, List.setIfInBounds_toArray, List.set_cons_zero, List.set_cons_succ]
            refine H_put (i := 11) 54 (v := .int .i64 z) rfl rfl (by kernel_rfl) (by kernel_rfl) (by kernel_rfl) (fun _ _ _ h => h) (Or.inl ⟨by rfl, fun w' hw' => ?_⟩) hS ?_
            · (have c := hw'.2.1; clear hw'; go_simp)
            simp only [Act.put, List.setIfInBounds_toArray, List.set_cons_zero, List.set_cons_succ]
            refine H_put (i := 12) 55 (v := .int .i64 (s.fr + z)) rfl rfl (by kernel_rfl) (by kernel_rfl) (by kernel_rfl) (fun _ _ _ h => h) (Or.inl ⟨by rfl, fun w' hw' => ?_⟩) hS ?_
            · (clear hw'; go_simp)
            simp only [Act.put, List.setIfInBounds_toArray, List.set_cons_zero, List.set_cons_succ]
            refine H_put (i := 13) 56 (v := .slice (some ⟨sg, 0, none⟩) 256 sk) rfl rfl (by kernel_rfl) (by kernel_rfl) (by kernel_rfl) (fun _ _ _ h => h) (Or.inl ⟨by rfl, fun w' hw' => ?_⟩) hS ?_
            · rfl
            simp only [Act.put, List.setIfInBounds_toArray, List.set_cons_zero, List.set_cons_succ]
            refine H_put (i := 14) 57 (v := .string ⟨sb.toArray⟩) rfl rfl (by kernel_rfl) (by kernel_rfl) (by kernel_rfl) (fun _ _ _ h => h) (Or.inl ⟨by rfl, fun w' hw' => ?_⟩) hS ?_
            · (have c := HCv.out w' hw'.2.2; clear hw'; go_simp)
            simp only [Act.put, List.setIfInBounds_toArray, List.set_cons_zero, List.set_cons_succ]
            refine H_call (i := 15) 58 61 #[.pointer (some ⟨r, 0, none⟩), .int .i64 (s.fr + z), .string ⟨sb.toArray⟩] (by kernel_rfl) rfl rfl (by rfl) (by go_simp) (HPt.out wc.drew (Touch.refl _ wc).drew) ?_
            rintro e w8 ⟨rfl, H8⟩
            obtain ⟨O8, hd8, hT8, hO8⟩ := H8.out
            have hS2 : (fun w' : World => w'.heap[q]? = some (QBox r s lv) ∧ w'.cell? ⟨lb, lo + i, none⟩ = some (.int .i64 z) ∧ At w' (some ⟨sg, 0, none⟩) sb) _ := ⟨hT8.at' hS.1 (HnO.out q HI.out.q.oq), by rw [World.cell?_of_block (w := wc.drew) (hT8.block lb (World.block_lt_of_cell? _ _ hS.2.1) HnL.out)]; exact hS.2.1, hS.2.2.block (fun b o e hb => by cases e; exact hT8.block _ hb HnG.out)⟩
            refine ⟨_, _, rfl, hS2, fun w' h => h, ?_⟩
            clear hS; have hS := hS2; clear hS2
            simp only [Act.put, List.setIfInBounds_toArray, List.set_cons_zero, List.set_cons_succ]
            refine H_put (i := 16) 7 (v := .int .i64 ez) rfl rfl (by kernel_rfl) (by kernel_rfl) (by kernel_rfl) (fun _ _ _ h => h) (Or.inl ⟨by rfl, fun w' hw' => ?_⟩) hS ?_
            · go_simp
            simp only [Act.put, List.setIfInBounds_toArray, List.set_cons_zero, List.set_cons_succ]
            refine wpAnyH_done (by kernel_rfl) ?_ _
            go_wp2
            go_meet
            case rel => exact ⟨rfl, O8, hd8, ((Touch.refl _ wc).drew).trans hT8, hO8⟩
          case rest =>
          rename World => w9
          obtain ⟨rfl, H9⟩ := hcut
          by_cases hoff : D'.left = 0
          · have e0 : E = (10, D') := by rw [HEe.out, if_pos hoff]
            have hez : ez = 10 := by rw [HEz.out, e0]
            subst hez
            go_wp2_with fail
            go_ret
            obtain ⟨O9, h1, h2, h3⟩ := H9.out
            have e1 : X = (10, D') := by rw [HX.out, HZL.out, ← HE.out.2.2.2, show zs.length - i = (zs.length - i - 1) + 1 by omega, goW, if_pos hoff]
            have hs2 : F.flS s D = s := by rw [HFs.out, e1]; rfl
            rw [e1, hs2]
            rw [e0] at h1
            have z0 := HA2.out.size
            have z1 := HI.out.touch.size
            have z2 := HC.out.2.2.2.size
            have z4 := h2.size
            have hT9 : Touch (fun k => O k ∨ OR k) w w9 := by
              refine ((HA2.out.mono (fun _ _ c => c.elim)).then HI.out.touch (fun k _ c => .inr c)).then ((HC.out.2.2.2.mono (U := O') (fun _ _ c => c.elim)).trans h2) (fun k hk c => ?_)
              rcases HE.out.1 k c with c | c
              · exact .inr c
              · omega
            refine ⟨rfl, ⟨lv, (HI.out.q.adds HC.out.2.2.2).touch h2 (fun k hk => HnO.out k hk)⟩, O9, h1, hT9, fun k c => ?_⟩
            rcases h3 k c with c | c
            · rcases HE.out.1 k c with c | c
              · exact .inl c
              · exact .inr ⟨by omega, by omega⟩
            · exact .inr ⟨by omega, c.2⟩
          · have e0 : E = (0, D'.wrote (s.fr + z) sb) := by rw [HEe.out, if_neg hoff]
            have hez : ez = 0 := by rw [HEz.out, e0]
            subst hez
            go_wp2_with fail
            go_roundw
            case rel =>
              obtain ⟨O9, h1, h2, h3⟩ := H9.out
              rw [e0] at h1
              have z1 := HI.out.touch.size
              have z2 := HC.out.2.2.2.size
              have z4 := h2.size
              refine ⟨i + 1, by go_num, by omega, (HI.out.q.adds HC.out.2.2.2).touch h2 (fun k hk => HnO.out k hk), ⟨_, O9, h1, fun k c => ?_, (HE.out.2.1.wrote _ _).mono (by omega), HE.out.2.2.1, ?_⟩, (HI.out.touch.trans (HC.out.2.2.2.mono (fun _ _ c => c.elim))).then h2 (fun k hk c => ?_)⟩
              · rcases h3 k c with c | c
                · rcases HE.out.1 k c with c | c
                  · exact .inl c
                  · exact .inr ⟨c.1, by omega⟩
                · exact .inr ⟨by omega, c.2⟩
              · rw [← HE.out.2.2.2, show zs.length - i = (zs.length - (i + 1)) + 1 by omega, goW, if_neg hoff, HF.out]
              · rcases HE.out.1 k c with c | c
                · exact c
                · omega
            case measure => simp [intOf]; omega
        · have hltz : ¬ (i : Int) < (zl : Int) := by omega
          obtain rfl : i = zl := by omega
          obtain ⟨D', O', hD', hO', hK', hS', hG'⟩ := HI.out.disk
          have c0 : wr.cell? ⟨q, 0, none⟩ = some (.pointer (some ⟨r, 0, none⟩)) := cellOf HI.out.q.box 0
          obtain ⟨E, hE⟩ : ∃ E : Int × dSt, E = (if D'.left = 0 then (10, D') else (0, D'.synced)) := ⟨_, rfl⟩
          have HSy := hid (show Calls Tryz.prog 62 #[.pointer (some ⟨r, 0, none⟩)] wr (PRo wr O' r E) by rw [hE]; exact ro_sync hD' hK' (by have := HK.out.2; omega))
          have e1 : X = E := by
            have hG2 := hG'
            rw [← HZL.out, Nat.sub_self, goW] at hG2
            rw [HX.out, ← hG2, hE]
          have HXE := hid e1
          have HnO := hid (show ∀ k, O k → ¬ O' k from fun k hk c => by
            rcases hO' k c with c | c
            · exact HAp.out k hk c
            · have := HLt.out k (.inl hk); have := HA2.out.size; omega)
          have HO' := hid hO'
          clear hD' hO' hK' hS' hG' e1
          obtain ⟨ez, hez⟩ : ∃ ez, ez = E.1 := ⟨_, rfl⟩
          have HSy := hid (show Calls Tryz.prog 62 #[.pointer (some ⟨r, 0, none⟩)] wr (fun e w'' => e = .returned (.int .i64 ez) ∧ Hid (∃ O8, IsRO w'' O8 r E.2 ∧ Touch O' wr w'' ∧ ∀ k, O8 k → O' k ∨ (wr.heap.size ≤ k ∧ k < w''.heap.size))) by rw [hez]; exact HSy.out)
          have HEz := hid hez
          clear hE hez
          go_upto_region 14 with (first | (go_at_call 62; refine HSy.out.mono ?_; rintro e w9 ⟨rfl, H9⟩))
          obtain ⟨O9, h1, h2, h3⟩ := H9.out
          have z0 := HA2.out.size
          have z1 := HI.out.touch.size
          have z4 := h2.size
          have HT9 := hid (show Touch (fun k => O k ∨ OR k) w w9 by
            refine ((HA2.out.mono (fun _ _ c => c.elim)).then HI.out.touch (fun k _ c => .inr c)).then h2 (fun k hk c => ?_)
            rcases HO'.out k c with c | c
            · exact .inr c
            · omega)
          have HN9 := hid (show ∀ k, O9 k → OR k ∨ (w.heap.size ≤ k ∧ k < w9.heap.size) from fun k c => by
            rcases h3 k c with c | c
            · rcases HO'.out k c with c | c
              · exact .inl c
              · exact .inr ⟨by omega, by omega⟩
            · exact .inr ⟨by omega, c.2⟩)
          have HQ9 := hid (HI.out.q.touch h2 (fun k hk => HnO.out k hk))
          have HR9 := hid h1
          clear h1 h2 h3 z0 z1 z4 c0
          by_cases hx : ez = 0
          · subst hx
            have HS2 := hid (show F.flS s D = { s with L := s.L.map F.cln } by rw [HFs.out, HXE.out, ← HEz.out]; rfl)
            have HX0 := hid (show X.1 = 0 ∧ X.2 = E.2 by rw [HXE.out]; exact ⟨HEz.out.symm, rfl⟩)
            have HCl := hid (show ∀ f ∈ s.L, F.cln f = { f with dirty := false } from fun f hf => by
              have hfr : f.fresh = false := HNf.out f hf
              unfold F.cln; rw [hfr]; rfl)
            obtain ⟨ao, ca, elv, hcap, _⟩ := HQ9.out.at'
            have HEL := hid elv
            obtain ⟨sl, hsl⟩ : ∃ sl, sl = s.L.length := ⟨_, rfl⟩
            have HLn := hid hsl
            have hsl9 : sl ≤ 9000 := by rw [hsl]; exact HSL.out
            rw [← hsl] at hcap
            have HAc : Hid (AcAt w9 w9 O q r s lv F.cln 0) := ⟨by rw [F.mapT_zero]; exact HQ9.out, Touch.refl _ _⟩
            clear elv hsl
            go_wp2_with fail
            go_loopw [9] (fun iv wy => ∃ j : Nat, iv = .int .i64 (j : Int) ∧ j ≤ sl ∧ Hid (AcAt w9 wy O q r s lv F.cln j)) (fun iv _ => sl - (intOf iv).toNat)
            case atStart => exact ⟨0, rfl, Nat.zero_le _, HAc.out⟩
            case round =>
              obtain ⟨j, rfl, hj, HJ⟩ := hrel
              rename World => wy
              have d4 : wy.cell? ⟨q, 4, none⟩ = some (.slice ao sl ca) := by have c := cellOf HJ.out.q.box 4; rw [HEL.out] at c; rw [HLn.out]; exact c
              by_cases hjl : j < sl
              · have hjz : (j : Int) < (sl : Int) := by omega
                have hj' : j < s.L.length := by rw [← HLn.out]; exact hjl
                have hj2 : j < (F.mapT F.cln s.L j).length := by rw [F.mapT_len]; exact hj'
                obtain ⟨ao', ca', e', _, hat⟩ := HJ.out.q.at'
                obtain ⟨g, ea, hob, hc, hfz⟩ := hat (by show 0 < (F.mapT F.cln s.L j).length; omega)
                have eao : ao = some ⟨g, 0, none⟩ := by
                  have e2 := HEL.out
                  rw [e', ea] at e2
                  simp at e2
                  exact e2.1.symm
                subst eao
                have hf0 : (F.mapT F.cln s.L j)[j]'hj2 = s.L[j] := F.mapT_at hj'
                obtain ⟨f, hf⟩ : ∃ f, f = s.L[j] := ⟨_, rfl⟩
                have e4 : wy.cell? ⟨g, j * 5 + 4, none⟩ = some (.bool f.dirty) := by have c := hc j hj2 4 (by omega); rw [show ({ s with L := F.mapT F.cln s.L j } : F.Po).L[j]'hj2 = f by rw [hf]; exact hf0] at c; exact c
                have f4 := hfz (j * 5 + 4)
                have HSt := hid (show AcAt w9 (wy.setCell ⟨g, j * 5 + 4, none⟩ (.bool false)) O q r s lv F.cln (j + 1) by
                  obtain ⟨q1, t1⟩ := HJ.out.q.store hob hj2 (j := 4) (by omega) (v := .bool false) (f := { f with dirty := false }) (by show (fc ((F.mapT F.cln s.L j)[j]'hj2)).set 4 _ = _; rw [hf0, ← hf]; rfl)
                  refine ⟨?_, HJ.out.touch.trans (t1.mono (fun b _ e => by rw [e]; exact HJ.out.q.ol g hob))⟩
                  rw [F.mapT_next hj', HCl.out s.L[j] (List.getElem_mem hj'), ← hf]
                  exact q1)
                clear hc hat hfz hf hf0 e' ea hob
                go_wp2_with fail
                go_roundw
                case rel => exact ⟨j + 1, by go_num, by omega, HSt.out⟩
                case measure => simp [intOf]; omega
              · have hjz : ¬ (j : Int) < (sl : Int) := by omega
                obtain rfl : j = sl := by omega
                go_wp2_with fail
                go_ret
                rw [HS2.out, HX0.out.1, HX0.out.2]
                have q1 := HJ.out.q
                rw [HLn.out, F.mapT_all] at q1
                have zy := HJ.out.touch.size
                refine ⟨rfl, ⟨lv, q1⟩, O9, HR9.out.touch HJ.out.touch (fun k c c' => ?_), HT9.out.then HJ.out.touch (fun k _ c => .inl c), fun k c => ?_⟩
                · rcases HN9.out k c with c | c
                  · exact HAp.out k c' c
                  · have := HLt.out k (.inl c'); omega
                · rcases HN9.out k c with c | c
                  · exact .inl c
                  · exact .inr ⟨c.1, by omega⟩
          · have hx' : (ez != 0) = true := by simpa using hx
            have HS2 := hid (show F.flS s D = s by rw [HFs.out, HXE.out, if_neg (by rw [← HEz.out]; exact hx)])
            have HX0 := hid (show X.1 = ez ∧ X.2 = E.2 by rw [HXE.out]; exact ⟨HEz.out.symm, rfl⟩)
            clear hx
            go_wp2_with fail
            go_ret
            rw [HS2.out, HX0.out.1, HX0.out.2]
            exact ⟨rfl, ⟨lv, HQ9.out⟩, O9, HR9.out, HT9.out, HN9.out⟩
  · have e1 : F.flX s D = (42, D) := by unfold F.flX; rw [if_neg hq]
    have e2 : F.flS s D = s := by unfold F.flS; rw [e1]; rfl
    rw [e1, e2]
    obtain ⟨zs, hzs⟩ : ∃ zs, zs = F.which s F.isFresh := ⟨_, rfl⟩
    rw [← hzs] at HW1 hq
    have hlz : 0 < zs.length := List.length_pos_iff.2 hq
    obtain ⟨zl, hzl⟩ : ∃ zl, zs.length = zl := ⟨_, rfl⟩
    rw [hzl] at hlz
    have hnz : (0 : Int) < (zl : Int) := by omega
    clear h hr hk hap hlt hg hok hk9 hq e1 e2 hl hn hzs
    go_enter Tryz.func28, Tryz.ntmps28
    go_wp2_with (first
      | (go_at_call 36; refine HW1.out.mono ?_; rintro e w1 ⟨v1, rfl, H1⟩; obtain ⟨a1, k1, rfl, _⟩ := row_get H1.out.1; rw [hzl]))
    go_ret
    exact HSame.out w1 H1.out.2 42
end Go.Proofs.YtjbdchgadfhffaaGreatDoor

/- The reference's call Open. -/
namespace Go.Proofs.YtjbdchgadfhffaaGreatDoor
open Go.RowKit

set_option maxRecDepth 100000 in
theorem IsRO.head {w : World} {O : Nat → Prop} {r : Nat} {D : dSt} (h : IsRO w O r D) : ∃ g gc, w.cell? ⟨r, 0, none⟩ = some (.slice (some ⟨g, 0, none⟩) D.size.toNat gc) := by
  obtain ⟨hv, wv, hrf, _, _, _⟩ := h
  obtain ⟨g, gc, hhv, _⟩ := hrf.heldAt
  exact ⟨g, gc, by rw [← hhv]; exact cellOf hrf.box 0⟩
set_option maxRecDepth 100000 in
set_option maxHeartbeats 2000000 in
theorem ropen11_bad {w : World} {O : Nat → Prop} {r : Nat} {D : dSt} (h : IsRO w O r D) (hs0 : 0 < D.size) (hsz : D.size ≤ 4096) (fr ct mo : Int) (hb : F.openOk D fr ct mo = false) : Calls Tryz.prog 21 #[Ptr r, .int .i64 fr, .int .i64 ct, .int .i64 mo] w (Tells (.tuple #[.pointer none, .int .i64 2]) w) := by
  obtain ⟨g, gc, c0⟩ := h.head
  obtain ⟨sn, hsn⟩ : ∃ sn, sn = D.size.toNat := ⟨_, rfl⟩
  have hsn2 : D.size = (sn : Int) := by omega
  rw [← hsn] at c0
  have hb' : ¬ (0 ≤ fr ∧ 1 ≤ ct ∧ ct ≤ 4096 ∧ fr + ct ≤ (sn : Int) ∧ 1 ≤ mo ∧ mo ≤ 256) := by rw [← hsn2]; simpa [F.openOk] using hb
  have hn9 : (sn : Int) ≤ 4096 := by omega
  unfold Ptr at *
  clear h hb hsn hsn2 hs0 hsz
  by_cases h1 : fr < 0
  · clear hb'
    go_enter Tryz.func21, Tryz.ntmps21
    go_wp2_with fail
    go_ret2
    exact ⟨rfl, rfl⟩
  by_cases h2 : ct < 1
  · clear hb'
    go_enter Tryz.func21, Tryz.ntmps21
    go_wp2_with fail
    go_ret2
    exact ⟨rfl, rfl⟩
  by_cases h3 : 4096 < ct
  · clear hb'
    go_enter Tryz.func21, Tryz.ntmps21
    go_wp2_with fail
    go_ret2
    exact ⟨rfl, rfl⟩
  have hw : wrap64 ((sn : Int) - ct) = (sn : Int) - ct := by simp [wrap64]; omega
  by_cases h4 : (sn : Int) - ct < fr
  · clear hb'
    go_enter Tryz.func21, Tryz.ntmps21
    go_wp2_with fail
    go_ret2
    exact ⟨rfl, rfl⟩
  by_cases h5 : mo < 1
  · clear hb'
    go_enter Tryz.func21, Tryz.ntmps21
    go_wp2_with fail
    go_ret2
    exact ⟨rfl, rfl⟩
  have h6 : 256 < mo := by omega
  clear hb'
  go_enter Tryz.func21, Tryz.ntmps21
  go_wp2_with fail
  go_ret2
  exact ⟨rfl, rfl⟩
set_option maxRecDepth 100000 in
theorem build_rpool (r : Nat) (fr ct mo : Int) (w : World) : (Instr.build 79 #[(0, .pointer (some ⟨r, 0, none⟩)), (1, .int .i64 fr), (2, .int .i64 ct), (3, .int .i64 mo)]).run Tryz.prog w = .ok (.agg #[.pointer (some ⟨r, 0, none⟩), .int .i64 fr, .int .i64 ct, .int .i64 mo, .slice none 0 0]) w := by kernel_rfl
/-- What Open makes. -/
def PROpn (w : World) (r : Nat) (s : F.Po) (e : Ending) (w' : World) : Prop := ∃ q, e = .returned (.tuple #[Ptr q, .int .i64 0]) ∧ Hid (IsQ w' (fun k => w.heap.size ≤ k ∧ k < w'.heap.size) q r s ∧ Adds w w')
set_option maxRecDepth 100000 in
set_option maxHeartbeats 2000000 in
theorem ropen11_ok {w : World} {O : Nat → Prop} {r : Nat} {D : dSt} (h : IsRO w O r D) (hs0 : 0 < D.size) (hsz : D.size ≤ 4096) (fr ct mo : Int) (hb : F.openOk D fr ct mo = true) : Calls Tryz.prog 21 #[Ptr r, .int .i64 fr, .int .i64 ct, .int .i64 mo] w (PROpn w r ⟨fr, ct, mo, []⟩) := by
  obtain ⟨g, gc, c0⟩ := h.head
  obtain ⟨sn, hsn⟩ : ∃ sn, sn = D.size.toNat := ⟨_, rfl⟩
  have hsn2 : D.size = (sn : Int) := by omega
  rw [← hsn] at c0
  have hb' : (0 ≤ fr ∧ 1 ≤ ct ∧ ct ≤ 4096 ∧ fr + ct ≤ (sn : Int) ∧ 1 ≤ mo ∧ mo ≤ 256) := by rw [← hsn2]; simpa [F.openOk] using hb
  have hn9 : (sn : Int) ≤ 4096 := by omega
  have h1 : ¬ fr < 0 := by omega
  have h2 : ¬ ct < 1 := by omega
  have h3 : ¬ 4096 < ct := by omega
  have hw : wrap64 ((sn : Int) - ct) = (sn : Int) - ct := by simp [wrap64]; omega
  have h4 : ¬ (sn : Int) - ct < fr := by omega
  have h5 : ¬ mo < 1 := by omega
  have h6 : ¬ 256 < mo := by omega
  have hbp := build_rpool
  unfold Ptr at *
  clear h hb hsn hsn2 hs0 hsz hb'
  go_enter Tryz.func21, Tryz.ntmps21
  go_wp2_with fail
  go_ret2
  refine ⟨_, rfl, ⟨.slice none 0 0, heap_alloc_new w _, ?_, ⟨Nat.le_refl _, by simp⟩, fun k hk => (by cases hk)⟩, (Touch.refl _ w).alloc _⟩
  exact World.ownsRow_nil _ _ _ _
end Go.Proofs.YtjbdchgadfhffaaGreatDoor
