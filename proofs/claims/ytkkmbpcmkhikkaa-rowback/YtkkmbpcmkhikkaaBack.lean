/- What is put of a row is taken: the walk of RowBack. -/
import Derived.Test.YtkkmbpcmkhikkaaPutTake
namespace Go.Proofs.Ytkkmbpcmkhikkaa
open Go.RowKit

theorem rowRight_z (x : Hd) (z : Bool) (hz : rightR x.r = z) (w : World) (hx : IsRow w x) : Calls Try.prog 13 #[.slice x.a x.r.length x.cap] w (Tells w (.bool z)) := by
  subst hz
  exact rowRight_any x w hx
theorem right_pr {r : List M.V} (h : ∀ v ∈ r, v.Ok) (hl : r.length ≤ 200) : rightR (M.pr r) = true := by
  unfold rightR
  rw [decide_eq_true (by simp [M.pr]; exact hl), Bool.true_and, List.all_eq_true]
  intro v hv
  obtain ⟨u, hu, rfl⟩ := List.mem_map.1 hv
  exact M.right_plain (h u hu)
theorem cmp_back {a : Option Addr} {cap : Nat} {x : Hd} {w : World} (ho : ∀ v ∈ x.r, v.Ok) (h : IsRow w ⟨a, cap, M.pr x.r⟩) (hx : IsRow w x) : Calls Try.prog 11 #[.slice a x.r.length cap, .slice x.a x.r.length x.cap] w (Tells w (.int .i64 0)) := by
  have h1 := row_cmp_z ⟨a, cap, M.pr x.r⟩ x w 0 (M.rcmp_plain ho) h hx
  rw [show (M.pr x.r).length = x.r.length by simp [M.pr]] at h1
  exact h1
theorem right_back {a : Option Addr} {cap : Nat} {r : List M.V} {w : World} (ho : ∀ v ∈ r, v.Ok) (hl : r.length ≤ 200) (h : IsRow w ⟨a, cap, M.pr r⟩) : Calls Try.prog 13 #[.slice a r.length cap] w (Tells w (.bool true)) := by
  have h1 := rowRight_z ⟨a, cap, M.pr r⟩ true (right_pr ho hl) w h
  rw [show (M.pr r).length = r.length by simp [M.pr]] at h1
  exact h1
/-- What is taken of a row, its length told by the row that was put. -/
def PTakeB (w : World) (p : Nat) (r : List M.V) (l : List UInt8) (e : Ending) (w' : World) : Prop := ∃ a cap, e = .returned (.tuple #[.slice a r.length cap, .int .i64 0]) ∧ Hid (IsRow w' ⟨a, cap, M.pr r⟩ ∧ RD w' (.pointer (some ⟨p, 0, none⟩)) ⟨0, l⟩ ∧ Touch (Own1 (.pointer (some ⟨p, 0, none⟩))) w w')
theorem take_back (vs : List M.V) (ho : ∀ v ∈ vs, v.Ok) (hl : vs.length ≤ 200) (p : Nat) (tl al : List UInt8) (w : World) (hal : al = (M.enc vs.length ++ M.puts vs) ++ tl) (hR : RD w (.pointer (some ⟨p, 0, none⟩)) ⟨0, al⟩) : Calls Try.prog 16 #[.pointer (some ⟨p, 0, none⟩)] w (PTakeB w p vs tl) := by
  rw [hal, List.append_assoc] at hR
  refine (rowTake_any vs ho hl p tl w hR).mono ?_
  rintro e w' ⟨a, cap, rfl, h⟩
  exact ⟨a, cap, by rw [show (M.pr vs).length = vs.length by simp [M.pr]], h⟩
set_option maxRecDepth 100000 in
set_option maxHeartbeats 2000000 in
theorem backLaw_any (x : Hd) (a1 : Option Addr) (bs : List UInt8) (cap1 : Nat) (w : World) (hX : Raw w x) (hXn : x.a = none → x.cap = 0) (hXo : ∀ v ∈ x.r, v.Ok) (hA : At w a1 bs) (hcap : a1 = none → cap1 = 0) (hbl : bs.length ≤ maxLen) :
    Calls Try.prog 5 #[.slice x.a x.r.length x.cap, .slice a1 bs.length cap1] w (Tells w (.bool true)) := by
  have HX := hid (And.intro hX (And.intro hXn hXo))
  have HA := hid (And.intro hA hcap)
  have hbl2 : (bs.length : Int) ≤ 9223372036854775807 := by unfold maxLen at hbl; omega
  clear hX hXn hXo hA hcap hbl
  go_enter Try.func5, Try.ntmps5
  go_upto_region 3 with (first | (go_at_call 6; refine (works_any _).mono ?_; rintro e w1 ⟨rfl, hA⟩; have A1 := hid hA; clear hA))
  have hw2 : Adds w1 (w1.alloc (.cells #[.slice x.a x.r.length x.cap] 30)) := (Touch.refl _ w1).alloc _
  have RX0 := hid (show (x.r.length ≤ 600) → IsRow (w1.alloc (.cells #[.slice x.a x.r.length x.cap] 30)) x from fun h => ⟨((HX.out.1.adds A1.out).adds hw2).at_, by omega, HX.out.2.1⟩)
  have A2 := hid (A1.out.trans hw2)
  have GR := hid (great_one (x := x) (heap_alloc_new w1 (.cells #[.slice x.a x.r.length x.cap] 30)) ((HX.out.1.adds A1.out).adds hw2))
  clear hw2
  by_cases h20 : 2000 < bs.length
  · have h20z : (2000 : Int) < (bs.length : Int) := by omega
    go_wp2_with (first | (go_at_call 7; refine GR.out.mono ?_; rintro e w2 ⟨y, rfl, hw, G1⟩; subst hw; cases y))
    all_goals (go_ret; exact ⟨rfl, A2.out⟩)
  have h20z : ¬ (2000 : Int) < (bs.length : Int) := by omega
  obtain ⟨z, hz⟩ : ∃ z, rightR x.r = z := ⟨_, rfl⟩
  have HZ := hid hz
  clear hz
  cases z with
  | false =>
    go_wp2_with (first
      | (go_at_call 7; refine GR.out.mono ?_; rintro e w2 ⟨y, rfl, hw, G1⟩; subst hw; cases y)
      | (go_at_call 13; refine (rowRight_z x false HZ.out _ (RX0.out ((G1.out trivial).2 x (by simp)))).mono ?_; rintro e w3 ⟨rfl, hA⟩; have A3 := hid hA; clear hA))
    all_goals (go_ret; first | exact ⟨rfl, A2.out⟩ | exact ⟨rfl, A2.out.trans A3.out⟩)
  | true =>
    have hl : x.r.length ≤ 200 := by
      have := HZ.out
      unfold rightR at this
      rw [Bool.and_eq_true] at this
      exact of_decide_eq_true this.1
    have RX := hid (RX0.out (by omega))
    clear RX0
    go_upto_region 5 with (first
      | (go_at_call 7; refine GR.out.mono ?_; rintro e w2 ⟨y, rfl, hw, G1⟩; subst hw; cases y)
      | (go_at_call 13; refine (rowRight_z x true HZ.out _ RX.out).mono ?_; rintro e w3 ⟨rfl, hA⟩; have A3 := hid hA; clear hA))
    all_goals try (go_ret; exact ⟨rfl, A2.out⟩)
    obtain ⟨pv, hpv⟩ : ∃ l, M.enc x.r.length ++ M.puts x.r = l := ⟨_, rfl⟩
    obtain ⟨al, hal⟩ : ∃ l, l = pv ++ bs := ⟨_, rfl⟩
    have hpl : pv.length ≤ 15010 := by
      have e1 := M.len_enc10 (n := x.r.length) (by omega)
      have e2 := M.len_puts HX.out.2.2
      rw [← hpv, List.length_append]; omega
    have RX3 := hid (RX.out.adds A3.out)
    have PV := hid (show Calls Try.prog 15 #[.slice none 0 0, .slice x.a x.r.length x.cap] w3 (PPut w3 pv) by
      have := rowPut_any x w3 RX3.out HX.out.2.2 hl
      rw [hpv] at this; exact this)
    have HRD := hid (fun a5 cap5 w5 (h : Lies w5 w5.heap.size a5 al cap5) => read_any a5 al cap5 w5 (by rw [hal, List.length_append]; omega) h.non h.at_)
    have TK := hid (fun (p : Nat) (w6 : World) (h : RD w6 (.pointer (some ⟨p, 0, none⟩)) ⟨0, al⟩) => take_back x.r HX.out.2.2 hl p bs al w6 (by rw [hal, ← hpv]) h)
    have HAL := hid hal
    have HL := hid (show pv.length + bs.length ≤ 140737488355328 by omega)
    have AW := hid (A2.out.trans A3.out)
    clear hpv hal hpl
    go_upto_region 7 with (first
      | (go_at_call 16; refine (TK.out _ _ R6.out).mono ?_; rintro e w7 ⟨a7, cap7, rfl, P7⟩; have A7 := hid (Adds.own A6.out P7.out.2.2 HR6.out))
      | (go_at_call 14; refine (HRD.out a5 cap5 w5 P5.out).mono ?_; rintro e w6 ⟨p, rfl, h1, h2, h3⟩; have R6 := hid h2; have A6 := hid (A5.out.trans h3); have HR6 := hid (Nat.le_trans A5.out.size h1); clear h1 h2 h3)
      | (at_builtin; refine append_bytes rfl _ _ rfl w3.heap.size _ pv.length (S pv) rfl P4.out.2.1 a1 bs cap1 rfl HA.out.2 (HA.out.1.adds (AW.out.trans P4.out.2.2)) HL.out P4.out.2.2.size ?_; intro v5 w5 hown hgrow hne; obtain ⟨a5, cap5, rfl, hL5⟩ := Own.lies (own_app HAL.out hown); have P5 := hid hL5; have A5 := hid (show Adds w3 w5 from Touch.grown P4.out.2.2 hgrow (fun j hj hlt => by have := (P4.out.2.1.lt j hj).1; omega)); clear hown hgrow hne hL5)
      | (go_at_call 15; refine PV.out.mono ?_; rintro e w4 ⟨a4, cap4, rfl, P4⟩))
    have RS := hid P7.out.1
    have R7 := hid P7.out.2.1
    have RX7 := hid (RX3.out.adds A7.out)
    clear P7 PV HRD TK HAL HL RX3 RX GR
    go_wp2_with (first
      | (go_at_call 11; refine (cmp_back HX.out.2.2 RS.out RX7.out).mono ?_; rintro e w8 ⟨rfl, hA⟩; have A8 := hid hA; clear hA)
      | (go_at_call 13; refine (right_back HX.out.2.2 hl (RS.out.adds A8.out)).mono ?_; rintro e w9 ⟨rfl, hA⟩; have A9 := hid (A8.out.trans hA); clear hA)
      | (go_at_call 17; refine (left_any (R7.out.adds A9.out)).mono ?_; rintro e w' ⟨rfl, hw⟩; obtain rfl := hw.symm))
    go_ret
    exact ⟨rfl, (AW.out.trans A7.out).trans A9.out⟩
end Go.Proofs.Ytkkmbpcmkhikkaa
