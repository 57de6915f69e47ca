/- The walk of StampTears. -/
import Derived.Test.YtahbggdidhmnfaaDoorWorks
import Derived.Test.YtahbggdidhmnfaaDoorTorn
import Derived.Test.YtahbggdidhmnfaaDoorRTorn
import Derived.Test.YtahbggdidhmnfaaDoorOrder
namespace Go.Proofs.YtahbggdidhmnfaaDoor
open Go.RowKit

namespace STr
/-- Bytes, wherever they lie. -/
def PStr (w : World) (n : Nat) (B : ByteArray) (e : Ending) (w' : World) : Prop := ∃ a c, e = .returned (.slice a n c) ∧ Hid (∀ w'', Adds w' w'' → (convert 23 9 (.slice a n c)).run Tryd.prog w'' = .ok (.string B) w'') ∧ Adds w w'
theorem str_of {P : Ending → World → Prop} {w : World} {f : Nat} {args : Array Value} {t : List UInt8} (h : Calls Tryd.prog f args w P) (hp : ∀ e w', P e w' → POwn w t e w') : Calls Tryd.prog f args w (PStr w t.length ⟨t.toArray⟩) := by
  refine h.mono fun e w' h1 => ?_
  obtain ⟨v, rfl, h2, h3⟩ := hp e w' h1
  obtain ⟨a, c, rfl, h4⟩ := Own.lies h2
  exact ⟨a, c, rfl, fun w'' hA => conv_at w'' a t c (h4.at_.adds hA), h3⟩

set_option maxRecDepth 100000 in
set_option maxHeartbeats 4000000 in
theorem walk_long1 (a : Option Addr) (n cap : Nat) (b : Option Addr) (m cap2 : Nat) (z : Int) (w : World) (h : 1000 < n) : Calls Tryd.prog 5 #[.slice a n cap, .slice b m cap2, .int .i64 z] w (Adding (.bool true) w) := by
  have hd : decide ((1000 : Int) < (n : Int)) = true := decide_eq_true (by omega)
  go_enter Tryd.func5, Tryd.ntmps5
  go_upto_region 1 with (fail)
  go_quiet (fail)
  go_wp2
  go_ret
  exact ⟨rfl, adds_drewN _ _⟩
set_option maxRecDepth 100000 in
set_option maxHeartbeats 4000000 in
theorem walk_long2 (a : Option Addr) (n cap : Nat) (b : Option Addr) (m cap2 : Nat) (z : Int) (w : World) (h : ¬ 1000 < n) (h2 : 1000 < m) : Calls Tryd.prog 5 #[.slice a n cap, .slice b m cap2, .int .i64 z] w (Adding (.bool true) w) := by
  have hd : decide ((1000 : Int) < (n : Int)) = false := decide_eq_false (by omega)
  have hd2 : decide ((1000 : Int) < (m : Int)) = true := decide_eq_true (by omega)
  go_enter Tryd.func5, Tryd.ntmps5
  go_upto_region 1 with (fail)
  go_quiet (fail)
  go_wp2
  go_ret
  exact ⟨rfl, adds_drewN _ _⟩
set_option maxRecDepth 100000 in
set_option maxHeartbeats 2000000 in
theorem walk_short (a : Option Addr) (n cap : Nat) (b : Option Addr) (m cap2 : Nat) (z : Int) (k : Nat) (B : ByteArray) (w : World) (h : ¬ 1000 < n) (h2 : ¬ 1000 < m) (hT : Tab w)
    (h1 : ∀ w', Adds w w' → Calls Tryd.prog 13 #[.slice a n cap, .slice b m cap2, .int .i64 z] w' (PStr w' k B)) (h3 : ∀ w', Adds w w' → Calls Tryd.prog 14 #[.slice a n cap, .slice b m cap2, .int .i64 z] w' (PStr w' k B)) :
    Calls Tryd.prog 5 #[.slice a n cap, .slice b m cap2, .int .i64 z] w (Adding (.bool true) w) := by
  have hd : ¬ (1000 : Int) < (n : Int) := by omega
  have hd2 : ¬ (1000 : Int) < (m : Int) := by omega
  have H1 := hid h1
  have H3 := hid h3
  have HW := hid (fun w' (hA : Adds w w') => works_any w' (hT.adds hA))
  clear h h2 h1 h3 hT
  go_enter Tryd.func5, Tryd.ntmps5
  go_upto_region 1 with (fail)
  refine H_begin (S := fun w' => Adds w w') (by kernel_rfl) ?_
  have hS : Adds w w.drew := (Touch.refl _ w).drew
  refine H_put (i := 0) 7 (v := .slice a n cap) rfl rfl (by kernel_rfl) (by kernel_rfl) (by kernel_rfl) (fun _ _ _ h => h) (Or.inl ⟨by rfl, fun w' hw' => ?_⟩) hS ?_
  · go_simp
  simp only [Act.put, List.setIfInBounds_toArray, List.set_cons_zero, List.set_cons_succ]
  refine H_put (i := 1) 8 (v := .int .i64 (n : Int)) rfl rfl (by kernel_rfl) (by kernel_rfl) (by kernel_rfl) (fun _ _ _ h => h) (Or.inl ⟨by rfl, fun w' hw' => ?_⟩) hS ?_
  · go_simp
  simp only [Act.put, List.setIfInBounds_toArray, List.set_cons_zero, List.set_cons_succ]
  refine H_put (i := 2) 9 (v := .bool false) rfl rfl (by kernel_rfl) (by kernel_rfl) (by kernel_rfl) (fun _ _ _ h => h) (Or.inl ⟨by rfl, fun w' hw' => ?_⟩) hS ?_
  · go_simp
  simp only [Act.put, List.setIfInBounds_toArray, List.set_cons_zero, List.set_cons_succ]
  refine H_put (i := 3) 10 (v := .bool false) rfl rfl (by kernel_rfl) (by kernel_rfl) (by kernel_rfl) (fun _ _ _ h => h) (Or.inl ⟨by rfl, fun w' hw' => ?_⟩) hS ?_
  · go_simp
  simp only [Act.put, List.setIfInBounds_toArray, List.set_cons_zero, List.set_cons_succ]
  refine H_put (i := 4) 11 (v := .slice b m cap2) rfl rfl (by kernel_rfl) (by kernel_rfl) (by kernel_rfl) (fun _ _ _ h => h) (Or.inl ⟨by rfl, fun w' hw' => ?_⟩) hS ?_
  · go_simp
  simp only [Act.put, List.setIfInBounds_toArray, List.set_cons_zero, List.set_cons_succ]
  refine H_put (i := 5) 12 (v := .int .i64 (m : Int)) rfl rfl (by kernel_rfl) (by kernel_rfl) (by kernel_rfl) (fun _ _ _ h => h) (Or.inl ⟨by rfl, fun w' hw' => ?_⟩) hS ?_
  · go_simp
  simp only [Act.put, List.setIfInBounds_toArray, List.set_cons_zero, List.set_cons_succ]
  refine H_put (i := 6) 13 (v := .bool false) rfl rfl (by kernel_rfl) (by kernel_rfl) (by kernel_rfl) (fun _ _ _ h => h) (Or.inl ⟨by rfl, fun w' hw' => ?_⟩) hS ?_
  · go_simp
  simp only [Act.put, List.setIfInBounds_toArray, List.set_cons_zero, List.set_cons_succ]
  refine H_put (i := 7) 14 (v := .bool false) rfl rfl (by kernel_rfl) (by kernel_rfl) (by kernel_rfl) (fun _ _ _ h => h) (Or.inl ⟨by rfl, fun w' hw' => ?_⟩) hS ?_
  · go_simp
  simp only [Act.put, List.setIfInBounds_toArray, List.set_cons_zero, List.set_cons_succ]
  refine H_put (i := 8) 15 (v := .bool false) rfl rfl (by kernel_rfl) (by kernel_rfl) (by kernel_rfl) (fun _ _ _ h => h) (Or.inl ⟨by rfl, fun w' hw' => ?_⟩) hS ?_
  · go_simp
  simp only [Act.put, List.setIfInBounds_toArray, List.set_cons_zero, List.set_cons_succ]
  refine H_put (i := 9) 16 (v := .slice a n cap) rfl rfl (by kernel_rfl) (by kernel_rfl) (by kernel_rfl) (fun _ _ _ h => h) (Or.inl ⟨by rfl, fun w' hw' => ?_⟩) hS ?_
  · go_simp
  simp only [Act.put, List.setIfInBounds_toArray, List.set_cons_zero, List.set_cons_succ]
  refine H_put (i := 10) 17 (v := .slice b m cap2) rfl rfl (by kernel_rfl) (by kernel_rfl) (by kernel_rfl) (fun _ _ _ h => h) (Or.inl ⟨by rfl, fun w' hw' => ?_⟩) hS ?_
  · go_simp
  simp only [Act.put, List.setIfInBounds_toArray, List.set_cons_zero, List.set_cons_succ]
  refine H_put (i := 11) 18 (v := .int .i64 z) rfl rfl (by kernel_rfl) (by kernel_rfl) (by kernel_rfl) (fun _ _ _ h => h) (Or.inl ⟨by rfl, fun w' hw' => ?_⟩) hS ?_
  · go_simp
  simp only [Act.put, List.setIfInBounds_toArray, List.set_cons_zero, List.set_cons_succ]
  refine H_put (i := 14) 21 (v := .slice a n cap) rfl rfl (by kernel_rfl) (by kernel_rfl) (by kernel_rfl) (fun _ _ _ h => h) (Or.inl ⟨by rfl, fun w' hw' => ?_⟩) hS ?_
  · go_simp
  simp only [Act.put, List.setIfInBounds_toArray, List.set_cons_zero, List.set_cons_succ]
  refine H_put (i := 15) 22 (v := .slice b m cap2) rfl rfl (by kernel_rfl) (by kernel_rfl) (by kernel_rfl) (fun _ _ _ h => h) (Or.inl ⟨by rfl, fun w' hw' => ?_⟩) hS ?_
  · go_simp
  simp only [Act.put, List.setIfInBounds_toArray, List.set_cons_zero, List.set_cons_succ]
  refine H_put (i := 16) 23 (v := .int .i64 z) rfl rfl (by kernel_rfl) (by kernel_rfl) (by kernel_rfl) (fun _ _ _ h => h) (Or.inl ⟨by rfl, fun w' hw' => ?_⟩) hS ?_
  · go_simp
  simp only [Act.put, List.setIfInBounds_toArray, List.set_cons_zero, List.set_cons_succ]
  refine H_call (i := 12) 19 13 #[.slice a n cap, .slice b m cap2, .int .i64 z] (R := PStr w.drew k B) (by kernel_rfl) rfl rfl (by rfl) (by go_simp) ?_ ?_
  · exact H1.out _ hS
  rintro e w1 ⟨a1, c1, rfl, C1, hw1⟩
  have Aw1 := hid (Touch.trans hS hw1)
  refine ⟨_, fun w' => Adds w1 w', rfl, Touch.refl _ _, fun w' h => Aw1.out.trans h, ?_⟩
  clear hS
  have hS : Adds w1 w1 := Touch.refl _ _
  simp only [Act.put, List.setIfInBounds_toArray, List.set_cons_zero, List.set_cons_succ]
  refine H_put (i := 13) 20 (v := .string B) rfl rfl (by kernel_rfl) (by kernel_rfl) (by kernel_rfl) (fun _ _ _ h => h) (Or.inl ⟨by rfl, fun w' hw' => ?_⟩) hS ?_
  · have hcv := C1.out w' hw'; go_simp
  simp only [Act.put, List.setIfInBounds_toArray, List.set_cons_zero, List.set_cons_succ]
  refine H_call (i := 17) 24 14 #[.slice a n cap, .slice b m cap2, .int .i64 z] (R := PStr w1 k B) (by kernel_rfl) rfl rfl (by rfl) (by go_simp) ?_ ?_
  · exact H3.out w1 Aw1.out
  rintro e w2 ⟨a2, c2, rfl, C2, hw2⟩
  have Aw2 := hid (Touch.trans Aw1.out hw2)
  refine ⟨_, fun w' => Adds w2 w', rfl, Touch.refl _ _, fun w' h => hw2.trans h, ?_⟩
  clear hS
  have hS : Adds w2 w2 := Touch.refl _ _
  simp only [Act.put, List.setIfInBounds_toArray, List.set_cons_zero, List.set_cons_succ]
  refine H_put (i := 18) 25 (v := .string B) rfl rfl (by kernel_rfl) (by kernel_rfl) (by kernel_rfl) (fun _ _ _ h => h) (Or.inl ⟨by rfl, fun w' hw' => ?_⟩) hS ?_
  · have hcv := C2.out w' hw'; go_simp
  simp only [Act.put, List.setIfInBounds_toArray, List.set_cons_zero, List.set_cons_succ]
  refine H_put (i := 19) 26 (v := .bool true) rfl rfl (by kernel_rfl) (by kernel_rfl) (by kernel_rfl) (fun _ _ _ h => h) (Or.inl ⟨by rfl, fun w' hw' => ?_⟩) hS ?_
  · go_simp
  simp only [Act.put, List.setIfInBounds_toArray, List.set_cons_zero, List.set_cons_succ]
  refine H_put (i := 20) 27 (v := .bool true) rfl rfl (by kernel_rfl) (by kernel_rfl) (by kernel_rfl) (fun _ _ _ h => h) (Or.inl ⟨by rfl, fun w' hw' => ?_⟩) hS ?_
  · go_simp
  simp only [Act.put, List.setIfInBounds_toArray, List.set_cons_zero, List.set_cons_succ]
  refine H_call (i := 21) 28 10 #[] (R := Adding (.bool true) w2) (by kernel_rfl) rfl rfl (by rfl) (by go_simp) ?_ ?_
  · exact HW.out w2 Aw2.out
  rintro e w3 ⟨rfl, hw3⟩
  have Aw3 := hid (Touch.trans Aw2.out hw3)
  refine ⟨_, fun w' => Adds w3 w', rfl, Touch.refl _ _, fun w' h => hw3.trans h, ?_⟩
  clear hS
  have hS : Adds w3 w3 := Touch.refl _ _
  simp only [Act.put, List.setIfInBounds_toArray, List.set_cons_zero, List.set_cons_succ]
  refine H_put (i := 22) 29 (v := .bool true) rfl rfl (by kernel_rfl) (by kernel_rfl) (by kernel_rfl) (fun _ _ _ h => h) (Or.inl ⟨by rfl, fun w' hw' => ?_⟩) hS ?_
  · go_simp
  simp only [Act.put, List.setIfInBounds_toArray, List.set_cons_zero, List.set_cons_succ]
  refine H_put (i := 23) 30 (v := .bool true) rfl rfl (by kernel_rfl) (by kernel_rfl) (by kernel_rfl) (fun _ _ _ h => h) (Or.inl ⟨by rfl, fun w' hw' => ?_⟩) hS ?_
  · go_simp
  simp only [Act.put, List.setIfInBounds_toArray, List.set_cons_zero, List.set_cons_succ]
  refine H_put (i := 24) 6 (v := .bool true) rfl rfl (by kernel_rfl) (by kernel_rfl) (by kernel_rfl) (fun _ _ _ h => h) (Or.inl ⟨by rfl, fun w' hw' => ?_⟩) hS ?_
  · go_simp
  simp only [Act.put, List.setIfInBounds_toArray, List.set_cons_zero, List.set_cons_succ]
  refine wpAnyH_done (by kernel_rfl) ?_ _
  go_wp2
  go_ret
  exact ⟨rfl, Aw3.out⟩
theorem walk (a : Option Addr) (x : List UInt8) (cap : Nat) (b : Option Addr) (y : List UInt8) (cap2 : Nat) (z : Int) (w : World) (ca : a = none → cap = 0) (cb : b = none → cap2 = 0) (hcap : x.length ≤ cap) (hcap2 : y.length ≤ cap2) (hT : Tab w) (hA : At w a x) (hB : At w b y) :
    Calls Tryd.prog 5 #[.slice a x.length cap, .slice b y.length cap2, .int .i64 z] w (Adding (.bool true) w) := by
  by_cases h : 1000 < x.length
  · exact walk_long1 a x.length cap b y.length cap2 z w h
  · by_cases h2 : 1000 < y.length
    · exact walk_long2 a x.length cap b y.length cap2 z w h h2
    · exact walk_short a x.length cap b y.length cap2 z _ _ w h h2 hT
        (fun w' hw => str_of (torn_any a x cap b y cap2 z w' (by omega) (by omega) (hA.adds hw) (hB.adds hw) ca cb hcap hcap2) (fun _ _ q => q))
        (fun w' hw => str_of (rtorn_any a x cap b y cap2 z w' (by omega) (by omega) (hA.adds hw) (hB.adds hw)) (fun _ _ q => q))
end STr
end Go.Proofs.YtahbggdidhmnfaaDoor
