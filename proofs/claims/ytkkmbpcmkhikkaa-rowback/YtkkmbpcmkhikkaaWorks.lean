/- The chapter's examples. -/
import Derived.Test.YtkkmbpcmkhikkaaWorks1
import Derived.Deep.CutRange
import Derived.Deep.DeepCutAuto
namespace Go.Proofs.Ytkkmbpcmkhikkaa
open Go.RowKit

theorem o1_rows (g : Nat) (n : Int) (w : World) (h : IsRow w ⟨some ⟨g, 0, none⟩, 1, [num n]⟩) : IsRow w (o1 g n) := h
theorem num_ok (n : Int) (h : -9223372036854775808 ≤ n ∧ n ≤ 9223372036854775807) : (num n).Ok := ⟨by simp [num], h, by simp [num]⟩
theorem isl_lit {w : World} {g k : Nat} {l : List Hd} {fr : Nat × Nat} (h : w.heap[g]? = some (.cells (SH l).toArray 30 fr)) (hr : ∀ x ∈ l, IsRow w x) (hl : l.length ≤ 1000000) (ho : Oks l) : IsL w (some ⟨g, 0, none⟩) k l := ⟨hat_lit h, fun e => (by cases e), hl, hr, ho⟩
theorem bag_at {w : World} {a a' : Option Addr} {cap cap' L L' : Nat} {l l' : List Hd} (hL : l.length = L) (hL' : l'.length = L') (h : IsL w a cap l) (h' : IsL w a' cap' l') : Calls Try.prog 9 #[.slice a L cap, .slice a' L' cap'] w (PB w ((bag l).Perm (bag l'))) := by
  subst hL hL'
  exact bag_any h h'
theorem within_at {w : World} {a a' : Option Addr} {cap cap' L L' : Nat} {l l' : List Hd} (hL : l.length = L) (hL' : l'.length = L') (h : IsL w a cap l) (h' : IsL w a' cap' l') : Calls Try.prog 12 #[.slice a L cap, .slice a' L' cap'] w (PB w (M.Win (bag l) (bag l'))) := by
  subst hL hL'
  exact rowWithin_any h h'
theorem rowRight_at (x : Hd) (w : World) (L : Nat) (hL : x.r.length = L) (hx : IsRow w x) : Calls Try.prog 13 #[.slice x.a L x.cap] w (Tells w (.bool (rightR x.r))) := by
  subst hL
  exact rowRight_any x w hx
set_option maxRecDepth 100000 in
set_option maxHeartbeats 2000000 in
theorem works_any (w : World) : Calls Try.prog 6 #[] w (Tells w (.bool true)) := by
  go_enter Try.func6, Try.ntmps6
  go_upto_region 2 with (first
    | (go_at_call 18; have R2 := R2; refine (one_any _ _).mono ?_; rintro e w3 ⟨g3, rfl, R3⟩)
    | (go_at_call 18; have R1 := R1; refine (one_any _ _).mono ?_; rintro e w2 ⟨g2, rfl, R2⟩)
    | (go_at_call 18; refine (one_any _ _).mono ?_; rintro e w1 ⟨g1, rfl, R1⟩)
    | (go_at_call 8; have A3 := hid (show Adds w w3 from (R1.out.2.trans R2.out.2).trans R3.out.2)
       have H5 := hid (show Adds w3 ((w3.alloc (.cells (SH [o1 g1 2, o1 g2 1, o1 g3 2]).toArray 30)).alloc (.cells #[.int .i64 0, .bool true] 44)) from ((Touch.refl _ w3).alloc _).alloc _)
       have HL := hid (kept (show Adds (w3.alloc (.cells (SH [o1 g1 2, o1 g2 1, o1 g3 2]).toArray 30)) ((w3.alloc (.cells (SH [o1 g1 2, o1 g2 1, o1 g3 2]).toArray 30)).alloc (.cells #[.int .i64 0, .bool true] 44)) from (Touch.refl _ _).alloc _) (heap_alloc_new w3 _))
       have HK := hid (heap_alloc_new (w3.alloc (.cells (SH [o1 g1 2, o1 g2 1, o1 g3 2]).toArray 30)) (.cells #[.int .i64 0, .bool true] 44))
       refine (rowSort_at _ 1 [(0, true)] _ 3 [o1 g1 2, o1 g2 1, o1 g3 2] _ rfl rfl (kat_one (by simpa using HK.out)) (by simp) (hat_lit HL.out) (fun e => (by cases e)) (by simp) (by
         intro x hx
         simp only [List.mem_cons, List.not_mem_nil, or_false] at hx
         rcases hx with rfl | rfl | rfl
         · exact ((R1.out.1.adds R2.out.2).adds R3.out.2).adds H5.out
         · exact (R2.out.1.adds R3.out.2).adds H5.out
         · exact R3.out.1.adds H5.out)).mono ?_; rintro e w6 ⟨a6, cap6, rfl, R6⟩))
  obtain ⟨g, b0, o0, c0, b2, o2, c2, ea6, hce⟩ := three_sorted R6.out
  have HCE := hid hce
  have A6 := hid (show Adds w w6 by
    obtain ⟨_, _, _, _, _, _, h6⟩ := R6.out
    exact (A3.out.trans H5.out).trans h6)
  subst ea6
  clear hce R6 HL HK H5 A3 R1 R2 R3
  go_upto_region 3 with (first
    | (go_at_call 18; have R8 := R8; refine (one_any _ _).mono ?_; rintro e w9 ⟨g9, rfl, R9⟩)
    | (go_at_call 18; have R7 := R7; refine (one_any _ _).mono ?_; rintro e w8 ⟨g8, rfl, R8⟩)
    | (go_at_call 18; refine (one_any _ _).mono ?_; rintro e w7 ⟨g7, rfl, R7⟩))
  have HA7 := hid (show Adds w6 w8 from R7.out.2.trans R8.out.2)
  have hza : Adds w8 (w9.alloc (.cells (SH [o1 g9 1]).toArray 30)) := ((show Adds w8 (w8.alloc (.cells (SH [o1 g7 1, o1 g8 1]).toArray 30)) from (Touch.refl _ w8).alloc _).trans R9.out.2).alloc _
  have hzb : Adds (w8.alloc (.cells (SH [o1 g7 1, o1 g8 1]).toArray 30)) (w9.alloc (.cells (SH [o1 g9 1]).toArray 30)) := R9.out.2.alloc _
  have hzc : Adds w9 (w9.alloc (.cells (SH [o1 g9 1]).toArray 30)) := (Touch.refl _ w9).alloc _
  have ok1 : ∀ l : List Hd, (∀ x ∈ l, x.r = [num 1]) → Oks l := by
    intro l hl x hx v hv
    rw [hl x hx] at hv
    obtain rfl : v = num 1 := by simpa using hv
    exact num_ok 1 (by omega)
  have LA := hid (show IsL (w9.alloc (.cells (SH [o1 g9 1]).toArray 30)) (some ⟨w8.heap.size, 0, none⟩) 2 [o1 g7 1, o1 g8 1] from isl_lit (kept hzb (heap_alloc_new w8 _)) (by
    intro x hx
    simp only [List.mem_cons, List.not_mem_nil, or_false] at hx
    rcases hx with rfl | rfl
    · exact (R7.out.1.adds R8.out.2).adds hza
    · exact R8.out.1.adds hza) (by simp) (ok1 _ (by
    intro x hx
    simp only [List.mem_cons, List.not_mem_nil, or_false] at hx
    rcases hx with rfl | rfl <;> rfl)))
  have LB := hid (show IsL (w9.alloc (.cells (SH [o1 g9 1]).toArray 30)) (some ⟨w9.heap.size, 0, none⟩) 1 [o1 g9 1] from isl_lit (heap_alloc_new w9 _) (by
    intro x hx
    obtain rfl : x = o1 g9 1 := by simpa using hx
    exact R9.out.1.adds hzc) (by simp) (ok1 _ (by
    intro x hx
    obtain rfl : x = o1 g9 1 := by simpa using hx
    rfl)))
  have AZ := hid (show Adds w (w9.alloc (.cells (SH [o1 g9 1]).toArray 30)) from (A6.out.trans HA7.out).trans hza)
  obtain ⟨k0, k2, k3, k4⟩ := HCE.out _ (HA7.out.trans hza)
  have HN := hid (show (¬ (bag [o1 g7 1, o1 g8 1]).Perm (bag [o1 g9 1])) ∧ (¬ M.Win (bag [o1 g7 1, o1 g8 1]) (bag [o1 g9 1])) ∧ M.Win (bag [o1 g9 1]) (bag [o1 g7 1, o1 g8 1]) from
    ⟨fun h => by have := h.length_eq; simp [bag] at this, fun h => by have := M.win_len h; simp [bag] at this, [M.pr [num 1]], .refl _⟩)
  have ez : (SH [o1 g9 1]).toArray = #[.slice (some ⟨g9, 0, none⟩) 1 1] := rfl
  rw [ez] at k0 k2 k3 k4 LA LB AZ
  generalize w9.alloc (.cells #[.slice (some ⟨g9, 0, none⟩) 1 1] 30) = wz at k0 k2 k3 k4 LA LB AZ ⊢
  clear ez
  have hrr : rightR [num 1] = true := by decide
  have HRR := hid hrr
  clear hrr hza hzb hzc ok1 HCE HA7 R7 R8 R9 A6
  go_wp2_with (first
    | (go_at_call 9; refine (bag_at rfl rfl LA.out LB.out).mono ?_; rintro e wa ⟨y, rfl, HY⟩
       obtain rfl : y = false := by
         cases y with
         | false => rfl
         | true => exact absurd (HY.out.1.1 rfl) HN.out.1
       have YA := hid HY.out.2; clear HY)
    | (go_at_call 12; have YB := YB; refine (within_at rfl rfl (LB.out.adds (YA.out.trans YB.out)) (LA.out.adds (YA.out.trans YB.out))).mono ?_; rintro e wd ⟨y, rfl, HY⟩
       obtain rfl : y = true := HY.out.1.2 HN.out.2.2
       have YD := hid HY.out.2; clear HY)
    | (go_at_call 12; refine (within_at rfl rfl (LA.out.adds YA.out) (LB.out.adds YA.out)).mono ?_; rintro e wb ⟨y, rfl, HY⟩
       obtain rfl : y = false := by
         cases y with
         | false => rfl
         | true => exact absurd (HY.out.1.1 rfl) HN.out.2.1
       have YB := hid HY.out.2; clear HY)
    | (go_at_call 18; refine (one_any _ _).mono ?_; rintro e we ⟨g10, rfl, R10⟩)
    | (go_at_call 13; refine (rowRight_at (o1 g10 1) _ 1 rfl R10.out.1).mono ?_; rintro e wf ⟨rfl, hF⟩; have YF := hid hF; clear hF; rw [show (o1 g10 1).r = [num 1] from rfl, HRR.out]))
  go_ret
  exact ⟨rfl, (((AZ.out.trans YA.out).trans YB.out).trans YD.out).trans (R10.out.2.trans YF.out)⟩
end Go.Proofs.Ytkkmbpcmkhikkaa
