/- A part is sorted by insertion. -/
import Derived.Test.YtkkmbpcmkhikkaaDat
import Derived.BigQuiet
import Derived.BigRegion
import Derived.Deep.QuietTactic
namespace Go.Proofs.Ytkkmbpcmkhikkaa
open Go.RowKit

set_option maxRecDepth 100000 in
set_option maxHeartbeats 4000000 in
theorem ins_any (q : Nat) (cb : Array Value) (cf : List M.V → List M.V → Int) (ho : M.Ord (ltc cf)) (g cap a b : Nat) (l : List Hd) (w : World) (hab : a ≤ b) (hb : b ≤ l.length) (hl : l.length ≤ 1000000) (hD : Dat w g l) (hC : Cmps q cb cf g w) :
    Calls Try.prog 71 #[.slice (some ⟨g, 0, none⟩) l.length cap, .int .i64 (a : Int), .int .i64 (b : Int), .func (.func q) #[] cb] w (PSort w g cf a b l) := by
  have eg := hC.ent
  have HCM := hid hC
  have HO := hid ho
  have HS := hid (And.intro (M.Outs.start (lt := ltc cf) (a := a) (b := b) (l := l)) (And.intro hD (Touch.refl (fun k => k = g) w)))
  clear hC ho hD
  go_enter Try.func71, Try.ntmps71
  go_wp2_with fail
  go_loopw [8] (fun iv wr => ∃ (i : Nat) (m : List Hd), iv = .int .i64 (i : Int) ∧ a < i ∧ i ≤ b + 1 ∧ m.length = l.length ∧ Hid (M.Outs (ltc cf) a b l i m ∧ Dat wr g m ∧ Only g w wr)) (fun iv _ => b + 1 - (intOf iv).toNat)
  case atStart => exact ⟨a + 1, l, by go_num, by omega, by omega, rfl, HS.out⟩
  case round =>
    obtain ⟨i, m, rfl, hai, hib, hm, HI⟩ := hrel
    clear HS
    by_cases hlt : i < b
    · have hltz : (i : Int) < (b : Int) := by omega
      go_wp2_with fail
      generalize wr = w1 at *
      go_loopw [9] (fun jv wr => ∃ (j : Nat) (n : List Hd), jv = .int .i64 (j : Int) ∧ a ≤ j ∧ j ≤ i ∧ n.length = l.length ∧ Hid (M.Ins (ltc cf) a b l i j n ∧ Dat wr g n ∧ Only g w wr)) (fun jv _ => (intOf jv).toNat)
      case atStart => exact ⟨i, m, rfl, by omega, by omega, hm, HI.out.1.into hlt (by omega), HI.out.2.1, HI.out.2.2⟩
      case round =>
        obtain ⟨j, n, rfl, haj, hji, hn, HJ⟩ := hrel
        clear HI
        by_cases hja : a < j
        · obtain ⟨jp, hjp⟩ : ∃ jp, j = jp + 1 := ⟨j - 1, by omega⟩
          obtain ⟨xj, hxj⟩ : ∃ x, n[j]! = x := ⟨_, rfl⟩
          obtain ⟨xp, hxp⟩ : ∃ x, n[jp]! = x := ⟨_, rfl⟩
          have HX := hid (And.intro hxj hxp)
          have HK := hid HJ.out
          clear HJ
          have HJ := hid (fun (w' : World) (hA : Adds wr w') => by have := (HK.out.2.1.adds hA).cell j (by omega); rw [hxj] at this; exact this)
          have HP := hid (fun (w' : World) (hA : Adds wr w') => by have := (HK.out.2.1.adds hA).cell jp (by omega); rw [hxp] at this; exact this)
          obtain ⟨z, hz⟩ : ∃ z, cf xj.r xp.r = z := ⟨_, rfl⟩
          have HC : Hid (∀ w', Adds wr w' → Calls Try.prog q (#[.slice xj.a xj.r.length xj.cap, .slice xp.a xp.r.length xp.cap] ++ cb) w' (Tells w' (.int .i64 z))) := hid (fun (w' : World) (hA : Adds wr w') => by
            have := HCM.out.run w' (HK.out.2.2.trans hA.only) xj xp (by have := (HK.out.2.1.adds hA).row (i := j) (by omega); rw [hxj] at this; exact this) (by have := (HK.out.2.1.adds hA).row (i := jp) (by omega); rw [hxp] at this; exact this)
            rw [hz] at this; exact this)
          have HZ := hid (show ltc cf n[j]! n[jp]! = decide (z < 0) by rw [hxj, hxp]; unfold ltc; rw [hz])
          have h1 : (j : Int) < (l.length : Int) := by omega
          have h2 : (jp : Int) < (l.length : Int) := by omega
          have h3 : (a : Int) < (j : Int) := by omega
          have h4 : IntKind.i64.wrap ((j : Int) - 1) = (jp : Int) := by rw [IntKind.wrap_i64]; omega
          have h5 : wrap64 ((j : Int) - 1) = (jp : Int) := by unfold wrap64; omega
          have HL := hid (show j = jp + 1 ∧ jp < l.length ∧ j < l.length by omega)
          clear hxj hxp hz hjp
          by_cases hz0 : z < 0
          · go_upto_region 4 with fail
            refine H_begin (S := fun w' => Adds wr w') (by kernel_rfl) ?_
            have hS : Adds wr wr.drew := (Touch.refl _ wr).drew
            refine H_put (i := 0) 18 (v := .int .i64 (j : Int)) rfl rfl (by kernel_rfl) (by kernel_rfl) (by kernel_rfl) (fun _ _ _ h => h) (Or.inl ⟨by rfl, fun w' hw' => ?_⟩) hS ?_
            · go_simp
            simp only [Act.put, List.setIfInBounds_toArray, List.set_cons_zero, List.set_cons_succ]
            refine H_put (i := 1) 19 (v := .int .i64 (a : Int)) rfl rfl (by kernel_rfl) (by kernel_rfl) (by kernel_rfl) (fun _ _ _ h => h) (Or.inl ⟨by rfl, fun w' hw' => ?_⟩) hS ?_
            · go_simp
            simp only [Act.put, List.setIfInBounds_toArray, List.set_cons_zero, List.set_cons_succ]
            refine H_put (i := 2) 20 (v := .bool true) rfl rfl (by kernel_rfl) (by kernel_rfl) (by kernel_rfl) (fun _ _ _ h => h) (Or.inl ⟨by rfl, fun w' hw' => ?_⟩) hS ?_
            · go_simp
            simp only [Act.put, List.setIfInBounds_toArray, List.set_cons_zero, List.set_cons_succ]
            refine H_put (i := 3) 21 (v := .bool true) rfl rfl (by kernel_rfl) (by kernel_rfl) (by kernel_rfl) (fun _ _ _ h => h) (Or.inl ⟨by rfl, fun w' hw' => ?_⟩) hS ?_
            · go_simp
            simp only [Act.put, List.setIfInBounds_toArray, List.set_cons_zero, List.set_cons_succ]
            refine H_put (i := 4) 22 (v := .func (.func q) #[] cb) rfl rfl (by kernel_rfl) (by kernel_rfl) (by kernel_rfl) (fun _ _ _ h => h) (Or.inl ⟨by rfl, fun w' hw' => ?_⟩) hS ?_
            · go_simp
            simp only [Act.put, List.setIfInBounds_toArray, List.set_cons_zero, List.set_cons_succ]
            refine H_put (i := 5) 23 (v := .slice (some ⟨g, 0, none⟩) l.length cap) rfl rfl (by kernel_rfl) (by kernel_rfl) (by kernel_rfl) (fun _ _ _ h => h) (Or.inl ⟨by rfl, fun w' hw' => ?_⟩) hS ?_
            · go_simp
            simp only [Act.put, List.setIfInBounds_toArray, List.set_cons_zero, List.set_cons_succ]
            refine H_put (i := 6) 24 (v := .int .i64 (j : Int)) rfl rfl (by kernel_rfl) (by kernel_rfl) (by kernel_rfl) (fun _ _ _ h => h) (Or.inl ⟨by rfl, fun w' hw' => ?_⟩) hS ?_
            · go_simp
            simp only [Act.put, List.setIfInBounds_toArray, List.set_cons_zero, List.set_cons_succ]
            refine H_put (i := 7) 25 (v := .pointer (some ⟨g, j, none⟩)) rfl rfl (by kernel_rfl) (by kernel_rfl) (by kernel_rfl) (fun _ _ _ h => h) (Or.inl ⟨by rfl, fun w' hw' => ?_⟩) hS ?_
            · go_simp
            simp only [Act.put, List.setIfInBounds_toArray, List.set_cons_zero, List.set_cons_succ]
            refine H_put (i := 8) 26 (v := .slice xj.a xj.r.length xj.cap) rfl rfl (by kernel_rfl) (by kernel_rfl) (by kernel_rfl) (fun _ _ _ h => h) (Or.inl ⟨by rfl, fun w' hw' => ?_⟩) hS ?_
            · have c0 := HJ.out w' hw'; go_simp
            simp only [Act.put, List.setIfInBounds_toArray, List.set_cons_zero, List.set_cons_succ]
            refine H_put (i := 9) 27 (v := .slice (some ⟨g, 0, none⟩) l.length cap) rfl rfl (by kernel_rfl) (by kernel_rfl) (by kernel_rfl) (fun _ _ _ h => h) (Or.inl ⟨by rfl, fun w' hw' => ?_⟩) hS ?_
            · go_simp
            simp only [Act.put, List.setIfInBounds_toArray, List.set_cons_zero, List.set_cons_succ]
            refine H_put (i := 10) 28 (v := .int .i64 (j : Int)) rfl rfl (by kernel_rfl) (by kernel_rfl) (by kernel_rfl) (fun _ _ _ h => h) (Or.inl ⟨by rfl, fun w' hw' => ?_⟩) hS ?_
            · go_simp
            simp only [Act.put, List.setIfInBounds_toArray, List.set_cons_zero, List.set_cons_succ]
            refine H_put (i := 11) 29 (v := .int .i64 (jp : Int)) rfl rfl (by kernel_rfl) (by kernel_rfl) (by kernel_rfl) (fun _ _ _ h => h) (Or.inl ⟨by rfl, fun w' hw' => ?_⟩) hS ?_
            · go_simp
            simp only [Act.put, List.setIfInBounds_toArray, List.set_cons_zero, List.set_cons_succ]
            refine H_put (i := 12) 30 (v := .pointer (some ⟨g, jp, none⟩)) rfl rfl (by kernel_rfl) (by kernel_rfl) (by kernel_rfl) (fun _ _ _ h => h) (Or.inl ⟨by rfl, fun w' hw' => ?_⟩) hS ?_
            · go_simp
            simp only [Act.put, List.setIfInBounds_toArray, List.set_cons_zero, List.set_cons_succ]
            refine H_put (i := 13) 31 (v := .slice xp.a xp.r.length xp.cap) rfl rfl (by kernel_rfl) (by kernel_rfl) (by kernel_rfl) (fun _ _ _ h => h) (Or.inl ⟨by rfl, fun w' hw' => ?_⟩) hS ?_
            · have c0 := HP.out w' hw'; go_simp
            simp only [Act.put, List.setIfInBounds_toArray, List.set_cons_zero, List.set_cons_succ]
            refine H_call (i := 14) 32 q (#[.slice xj.a xj.r.length xj.cap, .slice xp.a xp.r.length xp.cap] ++ cb) (R := Tells wr.drew (.int .i64 z)) (by kernel_rfl) rfl rfl (by rfl) (by go_simp) ?_ ?_
            · exact HC.out _ hS
            rintro e wa ⟨rfl, hwa⟩
            have Awa := hid (Touch.trans hS hwa)
            refine ⟨_, fun w' => Adds wa w', rfl, Touch.refl _ _, fun w' h => Awa.out.trans h, ?_⟩
            clear hS
            have hS : Adds wa wa := Touch.refl _ _
            simp only [Act.put, List.setIfInBounds_toArray, List.set_cons_zero, List.set_cons_succ]
            refine H_put (i := 15) 33 (v := .bool true) rfl rfl (by kernel_rfl) (by kernel_rfl) (by kernel_rfl) (fun _ _ _ h => h) (Or.inl ⟨by rfl, fun w' hw' => ?_⟩) hS ?_
            · go_simp
            simp only [Act.put, List.setIfInBounds_toArray, List.set_cons_zero, List.set_cons_succ]
            refine H_put (i := 16) 34 (v := .bool true) rfl rfl (by kernel_rfl) (by kernel_rfl) (by kernel_rfl) (fun _ _ _ h => h) (Or.inl ⟨by rfl, fun w' hw' => ?_⟩) hS ?_
            · go_simp
            simp only [Act.put, List.setIfInBounds_toArray, List.set_cons_zero, List.set_cons_succ]
            refine wpAnyH_done (by kernel_rfl) ?_ _
            have DD := hid (HK.out.2.1.adds Awa.out)
            have cj : wa.cell? ⟨g, j, none⟩ = some (.slice xj.a xj.r.length xj.cap) := HJ.out _ Awa.out
            have cp : wa.cell? ⟨g, jp, none⟩ = some (.slice xp.a xp.r.length xp.cap) := HP.out _ Awa.out
            have fj := DD.out.fro j (by rw [hn]; exact HL.out.2.2)
            have fp := DD.out.fro jp (by rw [hn]; exact HL.out.2.1)
            have hne : jp < j := by have := HL.out; omega
            have hne1 : ¬ j = jp := by omega
            have hne2 : ¬ jp = j := by omega
            clear HC HJ HP
            go_upto_region 6 with fail
            go_region
            all_goals go_wp2_with fail
            go_roundw
            case rel =>
              have hl := HL.out
              have hsw := DD.out.drew.swap (i := j) (j := jp) (by omega) (by omega) (x := .slice xj.a xj.r.length xj.cap) (y := .slice xp.a xp.r.length xp.cap) (by rw [HX.out.1]) (by rw [HX.out.2])
              have hst := HK.out.1
              have hzz := HZ.out
              rw [hl.1] at hst hzz hsw
              refine ⟨jp, M.swp n (jp + 1) jp, by go_num, by omega, by omega, by rw [M.len_swp]; exact hn, hst.step HO.out hb (by omega) (by rw [hzz]; simpa using hz0), ?_, ?_⟩
              · rw [hl.1]; exact hsw.1
              · rw [hl.1]; exact (HK.out.2.2.trans ((Adds.only Awa.out).trans ((Touch.refl _ _).drew))).trans hsw.2
            case measure => have := HL.out; simp [intOf]; omega
          · go_upto_region 4 with fail
            refine H_begin (S := fun w' => Adds wr w') (by kernel_rfl) ?_
            have hS : Adds wr wr.drew := (Touch.refl _ wr).drew
            refine H_put (i := 0) 18 (v := .int .i64 (j : Int)) rfl rfl (by kernel_rfl) (by kernel_rfl) (by kernel_rfl) (fun _ _ _ h => h) (Or.inl ⟨by rfl, fun w' hw' => ?_⟩) hS ?_
            · go_simp
            simp only [Act.put, List.setIfInBounds_toArray, List.set_cons_zero, List.set_cons_succ]
            refine H_put (i := 1) 19 (v := .int .i64 (a : Int)) rfl rfl (by kernel_rfl) (by kernel_rfl) (by kernel_rfl) (fun _ _ _ h => h) (Or.inl ⟨by rfl, fun w' hw' => ?_⟩) hS ?_
            · go_simp
            simp only [Act.put, List.setIfInBounds_toArray, List.set_cons_zero, List.set_cons_succ]
            refine H_put (i := 2) 20 (v := .bool true) rfl rfl (by kernel_rfl) (by kernel_rfl) (by kernel_rfl) (fun _ _ _ h => h) (Or.inl ⟨by rfl, fun w' hw' => ?_⟩) hS ?_
            · go_simp
            simp only [Act.put, List.setIfInBounds_toArray, List.set_cons_zero, List.set_cons_succ]
            refine H_put (i := 3) 21 (v := .bool true) rfl rfl (by kernel_rfl) (by kernel_rfl) (by kernel_rfl) (fun _ _ _ h => h) (Or.inl ⟨by rfl, fun w' hw' => ?_⟩) hS ?_
            · go_simp
            simp only [Act.put, List.setIfInBounds_toArray, List.set_cons_zero, List.set_cons_succ]
            refine H_put (i := 4) 22 (v := .func (.func q) #[] cb) rfl rfl (by kernel_rfl) (by kernel_rfl) (by kernel_rfl) (fun _ _ _ h => h) (Or.inl ⟨by rfl, fun w' hw' => ?_⟩) hS ?_
            · go_simp
            simp only [Act.put, List.setIfInBounds_toArray, List.set_cons_zero, List.set_cons_succ]
            refine H_put (i := 5) 23 (v := .slice (some ⟨g, 0, none⟩) l.length cap) rfl rfl (by kernel_rfl) (by kernel_rfl) (by kernel_rfl) (fun _ _ _ h => h) (Or.inl ⟨by rfl, fun w' hw' => ?_⟩) hS ?_
            · go_simp
            simp only [Act.put, List.setIfInBounds_toArray, List.set_cons_zero, List.set_cons_succ]
            refine H_put (i := 6) 24 (v := .int .i64 (j : Int)) rfl rfl (by kernel_rfl) (by kernel_rfl) (by kernel_rfl) (fun _ _ _ h => h) (Or.inl ⟨by rfl, fun w' hw' => ?_⟩) hS ?_
            · go_simp
            simp only [Act.put, List.setIfInBounds_toArray, List.set_cons_zero, List.set_cons_succ]
            refine H_put (i := 7) 25 (v := .pointer (some ⟨g, j, none⟩)) rfl rfl (by kernel_rfl) (by kernel_rfl) (by kernel_rfl) (fun _ _ _ h => h) (Or.inl ⟨by rfl, fun w' hw' => ?_⟩) hS ?_
            · go_simp
            simp only [Act.put, List.setIfInBounds_toArray, List.set_cons_zero, List.set_cons_succ]
            refine H_put (i := 8) 26 (v := .slice xj.a xj.r.length xj.cap) rfl rfl (by kernel_rfl) (by kernel_rfl) (by kernel_rfl) (fun _ _ _ h => h) (Or.inl ⟨by rfl, fun w' hw' => ?_⟩) hS ?_
            · have c0 := HJ.out w' hw'; go_simp
            simp only [Act.put, List.setIfInBounds_toArray, List.set_cons_zero, List.set_cons_succ]
            refine H_put (i := 9) 27 (v := .slice (some ⟨g, 0, none⟩) l.length cap) rfl rfl (by kernel_rfl) (by kernel_rfl) (by kernel_rfl) (fun _ _ _ h => h) (Or.inl ⟨by rfl, fun w' hw' => ?_⟩) hS ?_
            · go_simp
            simp only [Act.put, List.setIfInBounds_toArray, List.set_cons_zero, List.set_cons_succ]
            refine H_put (i := 10) 28 (v := .int .i64 (j : Int)) rfl rfl (by kernel_rfl) (by kernel_rfl) (by kernel_rfl) (fun _ _ _ h => h) (Or.inl ⟨by rfl, fun w' hw' => ?_⟩) hS ?_
            · go_simp
            simp only [Act.put, List.setIfInBounds_toArray, List.set_cons_zero, List.set_cons_succ]
            refine H_put (i := 11) 29 (v := .int .i64 (jp : Int)) rfl rfl (by kernel_rfl) (by kernel_rfl) (by kernel_rfl) (fun _ _ _ h => h) (Or.inl ⟨by rfl, fun w' hw' => ?_⟩) hS ?_
            · go_simp
            simp only [Act.put, List.setIfInBounds_toArray, List.set_cons_zero, List.set_cons_succ]
            refine H_put (i := 12) 30 (v := .pointer (some ⟨g, jp, none⟩)) rfl rfl (by kernel_rfl) (by kernel_rfl) (by kernel_rfl) (fun _ _ _ h => h) (Or.inl ⟨by rfl, fun w' hw' => ?_⟩) hS ?_
            · go_simp
            simp only [Act.put, List.setIfInBounds_toArray, List.set_cons_zero, List.set_cons_succ]
            refine H_put (i := 13) 31 (v := .slice xp.a xp.r.length xp.cap) rfl rfl (by kernel_rfl) (by kernel_rfl) (by kernel_rfl) (fun _ _ _ h => h) (Or.inl ⟨by rfl, fun w' hw' => ?_⟩) hS ?_
            · have c0 := HP.out w' hw'; go_simp
            simp only [Act.put, List.setIfInBounds_toArray, List.set_cons_zero, List.set_cons_succ]
            refine H_call (i := 14) 32 q (#[.slice xj.a xj.r.length xj.cap, .slice xp.a xp.r.length xp.cap] ++ cb) (R := Tells wr.drew (.int .i64 z)) (by kernel_rfl) rfl rfl (by rfl) (by go_simp) ?_ ?_
            · exact HC.out _ hS
            rintro e wa ⟨rfl, hwa⟩
            have Awa := hid (Touch.trans hS hwa)
            refine ⟨_, fun w' => Adds wa w', rfl, Touch.refl _ _, fun w' h => Awa.out.trans h, ?_⟩
            clear hS
            have hS : Adds wa wa := Touch.refl _ _
            simp only [Act.put, List.setIfInBounds_toArray, List.set_cons_zero, List.set_cons_succ]
            refine H_put (i := 15) 33 (v := .bool false) rfl rfl (by kernel_rfl) (by kernel_rfl) (by kernel_rfl) (fun _ _ _ h => h) (Or.inl ⟨by rfl, fun w' hw' => ?_⟩) hS ?_
            · go_simp
            simp only [Act.put, List.setIfInBounds_toArray, List.set_cons_zero, List.set_cons_succ]
            refine H_put (i := 16) 34 (v := .bool false) rfl rfl (by kernel_rfl) (by kernel_rfl) (by kernel_rfl) (fun _ _ _ h => h) (Or.inl ⟨by rfl, fun w' hw' => ?_⟩) hS ?_
            · go_simp
            simp only [Act.put, List.setIfInBounds_toArray, List.set_cons_zero, List.set_cons_succ]
            refine wpAnyH_done (by kernel_rfl) ?_ _
            go_wp2_with fail
            go_roundw
            case rel => exact ⟨i + 1, n, by go_num, by omega, by omega, hn, HK.out.1.stop HO.out (.inr (by rw [show j - 1 = jp by have := HL.out; omega, HZ.out]; simpa using hz0)), HK.out.2.1.adds Awa.out, HK.out.2.2.trans (Adds.only Awa.out)⟩
            case measure => simp [intOf]; omega
        · have hjaz : decide ((j : Int) > (a : Int)) = false := decide_eq_false (by omega)
          have hjaz' : ¬ (a : Int) < (j : Int) := by omega
          go_wp2_with fail
          go_quiet (fail)
          go_wp2_with fail
          go_roundw
          case rel => exact ⟨i + 1, n, by go_num, by omega, by omega, hn, HJ.out.1.stop HO.out (.inl (by omega)), HJ.out.2.1.drewN _, HJ.out.2.2.drewN _⟩
          case measure => simp [intOf]; omega
    · have hltz : ¬ (i : Int) < (b : Int) := by omega
      go_wp2_with fail
      go_end0
      obtain ⟨h1, h2, h3⟩ := HI.out.1.done (by omega)
      exact ⟨rfl, m, ⟨h1, h2, h3⟩, HI.out.2.1, HI.out.2.2⟩
end Go.Proofs.Ytkkmbpcmkhikkaa
