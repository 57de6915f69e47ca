/- A space of one map: its calls; the chapter's example. -/
import Derived.Test.YtjlennpoaefllaaGreatDoorQ37
namespace Go.Proofs.YtjlennpoaefllaaGreatDoor
open Go.RowKit

def wsOf (x : List UInt8) (fr dt : Bool) (ws : List UInt8) : List UInt8 := if fr then ws else if dt then G.pg 0 x else []
section
variable {w0 w : World} {X : List (Nat × Obj)} {p dp c mo n kk sp : Nat} {x ws : List UInt8} {fr dt : Bool} {D : dSt}
set_option maxRecDepth 100000 in
theorem s1_alloc (h : LpX w0 w X p dp (G.S1 c mo x fr dt ws) D n kk) (hX : (sp, SBox p) ∈ X) (hn : n + 10 ≤ 1000000) (hk9 : kk ≤ 900) (hc : 1 ≤ c) (hc2 : c ≤ 1920) (hx : G.may c 0 x = true) {i : Nat} (hi : G.least c 0 x = some i) :
    Calls Tryz.prog 31 #[Ptr sp] w (fun e w' => e = .returned (.tuple #[.int .i64 (i : Int), .int .i64 0]) ∧ Hid (LpX w0 w' X p dp (G.S1 c mo (G.flip x i) true dt (wsOf x fr dt ws)) D (n + 10) kk)) := by
  have q := salloc_any h hX hn hk9
  rw [G.cnt1, G.maps1 hc hc2, G.alloc1 hc mo fr dt ws D hx hi] at q
  exact q
set_option maxRecDepth 100000 in
theorem s1_full (h : LpX w0 w X p dp (G.S1 c mo x fr dt ws) D n kk) (hX : (sp, SBox p) ∈ X) (hn : n + 10 ≤ 1000000) (hk9 : kk ≤ 900) (hc : 1 ≤ c) (hc2 : c ≤ 1920) (hx : G.may c 0 x = true) (hi : G.least c 0 x = none) :
    Calls Tryz.prog 31 #[Ptr sp] w (fun e w' => e = .returned (.tuple #[.int .i64 0, .int .i64 30]) ∧ Hid (LpX w0 w' X p dp (G.S1 c mo x fr dt ws) D (n + 10) kk)) := by
  have q := salloc_any h hX hn hk9
  rw [G.cnt1, G.maps1 hc hc2, G.alloc1' hc mo fr dt ws D hx hi] at q
  exact q
set_option maxRecDepth 100000 in
theorem s1_free (h : LpX w0 w X p dp (G.S1 c mo x fr dt ws) D n kk) (hX : (sp, SBox p) ∈ X) (hn : n + 10 ≤ 1000000) (hk9 : kk ≤ 900) (hc : 1 ≤ c) (hc2 : c ≤ 1920) (hx : G.may c 0 x = true) {m : Nat} (hm : 1 ≤ m) (hm2 : m < c) (hb : G.bit x m = true) :
    Calls Tryz.prog 32 #[Ptr sp, .int .i64 (m : Int)] w (fun e w' => e = .returned (.int .i64 0) ∧ Hid (LpX w0 w' X p dp (G.S1 c mo (G.flip x m) true dt (wsOf x fr dt ws)) D (n + 10) kk)) := by
  have q := sfree_any h hX hn hk9 (m : Int)
  rw [G.free1 hc hc2 mo fr dt ws D hx hm hm2, if_pos hb] at q
  exact q
set_option maxRecDepth 100000 in
theorem s1_inv (h : LpX w0 w X p dp (G.S1 c mo x fr dt ws) D n kk) (hX : (sp, SBox p) ∈ X) (hn : n + 10 ≤ 1000000) (hk9 : kk ≤ 900) (hc : 1 ≤ c) (hc2 : c ≤ 1920) {no : Int} (hno : no < 1 ∨ (c : Int) ≤ no) :
    Calls Tryz.prog 32 #[Ptr sp, .int .i64 no] w (fun e w' => e = .returned (.int .i64 2) ∧ Hid (LpX w0 w' X p dp (G.S1 c mo x fr dt ws) D (n + 10) kk)) := by
  have q := sfree_any h hX hn hk9 no
  rw [G.free1' hc hc2 mo x fr dt ws D hno] at q
  exact q
end
/-- The cells of the example. -/
def wx : Nat → List UInt8
  | 1 => [1]
  | 2 => [3]
  | 3 => [7]
  | _ => [15]
theorem wx_may : ∀ i, 1 ≤ i → i ≤ 4 → G.may 4 0 (wx i) = true
  | 1, _, _ => by decide
  | 2, _, _ => by decide
  | 3, _, _ => by decide
  | 4, _, _ => by decide
theorem wx_least : ∀ i, 1 ≤ i → i < 4 → G.least 4 0 (wx i) = some i ∧ G.flip (wx i) i = wx (i + 1)
  | 1, _, _ => by decide
  | 2, _, _ => by decide
  | 3, _, _ => by decide
set_option maxRecDepth 100000 in
set_option maxHeartbeats 4000000 in
theorem works12 (w : World) (hT : Tab w) : Calls Tryz.prog 8 #[] w (Adding (.bool true) w) := by
  have HF := hid (formatted_any 4 (by decide) (by decide) w hT)
  have e4 : ((4 : Nat) : Int) = 4 := rfl
  rw [e4] at HF
  have hfst : G.first 4 0 = wx 1 := by decide
  clear hT e4
  go_enter Tryz.func8, Tryz.ntmps8
  go_upto_region 4 with (go_at_call 30; refine HF.out.mono ?_; rintro e w1 ⟨sp, p, dp, rfl, H1⟩)
  rw [hfst] at H1
  clear hfst HF
  go_wp2_with fail
  go_loopw [2] (fun iv wr => ∃ i : Nat, iv = .int .i64 (i : Int) ∧ 1 ≤ i ∧ i ≤ 4 ∧ Hid (LpX w wr [(sp, SBox p)] p dp (G.S1 4 8 (wx i) true false []) (dSt.new (4 : Nat)) (10 * i) 0)) (fun iv _ => 4 - (intOf iv).toNat)
  case atStart => exact ⟨1, rfl, by decide, by decide, H1.out.1⟩
  case round =>
    obtain ⟨i, rfl, hi1, hi4, HI⟩ := hrel
    by_cases hlt : i < 4
    · have hltz : (i : Int) < 4 := by omega
      have HA := hid (s1_alloc HI.out List.mem_cons_self (by omega) (by omega) (by decide) (by decide) (wx_may i hi1 hi4) (wx_least i hi1 hlt).1)
      rw [(wx_least i hi1 hlt).2] at HA
      go_wp2_with (go_at_call 31; refine HA.out.mono ?_; rintro e w2 ⟨rfl, H2⟩)
      go_roundw
      case rel => exact ⟨i + 1, by go_num, by omega, by omega, H2.out⟩
      case measure => simp [intOf]; omega
    · obtain rfl : i = 4 := by omega
      have HA := hid (s1_full HI.out List.mem_cons_self (by omega) (by omega) (by decide) (by decide) (wx_may 4 hi1 hi4) (by decide))
      have HB := hid (fun w' (h : LpX w w' [(sp, SBox p)] p dp (G.S1 4 8 (wx 4) true false []) (dSt.new (4 : Nat)) 50 0) => show Calls Tryz.prog 32 #[Ptr sp, .int .i64 2] w' (fun e w2 => e = .returned (.int .i64 0) ∧ Hid (LpX w w2 [(sp, SBox p)] p dp (G.S1 4 8 [11] true false []) (dSt.new (4 : Nat)) 60 0)) by
        have q := s1_free h List.mem_cons_self (by omega) (by omega) (by decide) (by decide) (wx_may 4 hi1 hi4) (m := 2) (by decide) (by decide) (by decide)
        exact q)
      have HC := hid (fun w' (h : LpX w w' [(sp, SBox p)] p dp (G.S1 4 8 [11] true false []) (dSt.new (4 : Nat)) 60 0) => s1_inv h List.mem_cons_self (by omega) (by omega) (by decide) (by decide) (no := 0) (.inl (by decide)))
      have HD := hid (fun w' (h : LpX w w' [(sp, SBox p)] p dp (G.S1 4 8 [11] true false []) (dSt.new (4 : Nat)) 70 0) => show Calls Tryz.prog 31 #[Ptr sp] w' (fun e w2 => e = .returned (.tuple #[.int .i64 2, .int .i64 0]) ∧ Hid (Adds w w2)) by
        refine (s1_alloc h List.mem_cons_self (by omega) (by omega) (by decide) (by decide) (by decide) (i := 2) (by decide)).mono ?_
        rintro e w2 ⟨rfl, H⟩
        exact ⟨rfl, H.out.e.adds⟩)
      clear hlt hi1 hi4
      unfold Ptr at *
      go_wp2_with (first
        | (go_at_call 31; refine HA.out.mono ?_; rintro e w2 ⟨rfl, H2⟩; clear HA)
        | (go_at_call 31; refine (HD.out _ H4.out).mono ?_; rintro e w5 ⟨rfl, H5⟩)
        | (go_at_call 32; refine (HB.out _ H2.out).mono ?_; rintro e w3 ⟨rfl, H3⟩; clear HB)
        | (go_at_call 32; refine (HC.out _ H3.out).mono ?_; rintro e w4 ⟨rfl, H4⟩; clear HC))
      go_ret
      exact ⟨rfl, H5.out⟩
end Go.Proofs.YtjlennpoaefllaaGreatDoor
