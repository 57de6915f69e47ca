/- PageFills. -/
import Derived.Test.YtidkmamjhpckgaaRFill
import Derived.Test.YtidkmamjhpckgaaPLaw1
namespace Go.Proofs.Ytidkmamjhpckgaa
open Go.RowKit

theorem flat_bound : ∀ (l : List (List UInt8)) (c : Nat), (∀ x ∈ l, x.length ≤ c) → l.flatten.length ≤ c * l.length
  | [], _, _ => by simp
  | x :: l, c, h => by
    have h1 := h x (List.mem_cons_self ..)
    have h2 := flat_bound l c (fun y hy => h y (List.mem_cons_of_mem _ hy))
    rw [List.flatten_cons, List.length_append, List.length_cons, Nat.mul_add, Nat.mul_one]
    omega
set_option maxRecDepth 100000 in
set_option maxHeartbeats 2000000 in
theorem fills9 (no : Int) (kd : UInt8) (a : Option Addr) (hs : List Part) (n cap : Nat) (hn : hs.length = n) (w : World) (h : GQ w (fun _ => True) ⟨a, cap, hs⟩) (hl : n ≤ 9223372036854775807) (hm : ∀ x ∈ hs, x.bs.length ≤ 9223372036854775807) :
    Calls Try.prog 4 #[.int .i64 no, .int .u8 (kd.toNat : Int), .slice a n cap] w (Adding (.bool true) w) := by
  have HG := hid h
  have HN := hid (And.intro hn hm)
  clear h hn hm
  by_cases h300 : 300 < n
  · go_enter Try.func4, Try.ntmps4
    go_wp2_with fail
    go_ret
    exact ⟨rfl, Touch.refl _ _⟩
  · go_enter Try.func4, Try.ntmps4
    go_wp2_with fail
    go_loopw [22] (fun i wr => ∃ k : Nat, k ≤ n ∧ i = .int .i64 (k : Int) ∧ Hid (∀ x ∈ hs.take k, x.bs.length ≤ 400) ∧ wr = w) (fun i _ => n - (intOf i).toNat)
    case atStart => exact ⟨0, Nat.zero_le _, rfl, hid (fun x hx => by simp at hx), rfl⟩
    case round =>
      obtain ⟨k, hk, rfl, HI, hw⟩ := hrel
      obtain rfl := hw.symm
      by_cases hlt : k < n
      · obtain ⟨y, b, o, hy, hq, ha, hc⟩ := part_get HG.out (k := k) (by show k < hs.length; rw [HN.out.1]; exact hlt)
        have ha' : a = some ⟨b, o, none⟩ := ha
        subst ha'
        obtain ⟨yl, hyl⟩ : ∃ yl, yl = y.bs.length := ⟨_, rfl⟩
        have hym : yl ≤ 9223372036854775807 := by rw [hyl]; exact HN.out.2 y (List.mem_of_getElem? hy)
        rw [← hyl] at hc
        by_cases h400 : 400 < yl
        · clear hy hq ha hyl
          go_wp2_with fail
          go_ret
          exact ⟨rfl, Touch.refl _ _⟩
        · have HY := hid (show ∀ x ∈ hs.take (k + 1), x.bs.length ≤ 400 from fun x hx => by
            rw [List.take_add_one, show hs[k]? = some y from hy] at hx
            rcases List.mem_append.1 hx with c | c
            · exact HI.out x c
            · have e : x = y := by simpa using c
              rw [e, ← hyl]; omega)
          clear hy hq ha hyl
          go_wp2_with fail
          go_roundw
          case rel => exact ⟨k + 1, by omega, by go_num, HY, by first | rfl | trivial⟩
          case measure => simp [intOf]; omega
      · obtain rfl : n = k := by omega
        have hall : ∀ x ∈ hs, x.bs.length ≤ 400 := fun x hx => HI.out x (by rw [List.take_of_length_le (by rw [HN.out.1]; exact Nat.le_refl _)]; exact hx)
        have htk : M.taken (hs.map (·.bs)) ≤ 1000000000000000 := by
          have h1 := flat_bound (hs.map (·.bs)) 400 (fun c hc => by obtain ⟨x, hx, rfl⟩ := List.mem_map.1 hc; exact hall x hx)
          unfold M.taken
          rw [List.length_map, HN.out.1] at h1 ⊢
          omega
        obtain ⟨X, hX⟩ : ∃ X, X = M.fillP no kd (hs.map (·.bs)) := ⟨_, rfl⟩
        obtain ⟨ex, hex⟩ : ∃ ex, ex = M.fillE no kd (hs.map (·.bs)) := ⟨_, rfl⟩
        obtain ⟨X0, hX0⟩ : ∃ X0, X0 = M.fillP no kd [] := ⟨_, rfl⟩
        obtain ⟨e0, he0⟩ : ∃ e0, e0 = M.fillE no kd [] := ⟨_, rfl⟩
        have HF := hid (show Calls Try.prog 19 #[.int .i64 no, .int .u8 (kd.toNat : Int), .slice a n cap] w (PTold w X ex) by
          have q := gfill_any no kd a hs n cap HN.out.1 w HG.out (fun x hx => by have := hall x hx; omega) (by omega)
          rw [← hX, ← hex] at q; exact q)
        have HR := hid (fun w1 (hA : Adds w w1) => show Calls Try.prog 20 #[.int .i64 no, .int .u8 (kd.toNat : Int), .slice a n cap] w1 (PTold w1 X ex) by
          have q := rfill_any no kd a hs n cap HN.out.1 w1 (HG.out.adds hA) htk
          rw [← hX, ← hex] at q; exact q)
        have HF0 := hid (fun w1 => show Calls Try.prog 21 #[.int .i64 no, .int .u8 (kd.toNat : Int)] w1 (PTold w1 X0 e0) by
          have q := gnew_any no kd w1
          rw [← hX0, ← he0] at q; exact q)
        have HR0 := hid (fun w1 => show Calls Try.prog 20 #[.int .i64 no, .int .u8 (kd.toNat : Int), .slice none 0 0] w1 (PTold w1 X0 e0) by
          have q := rfill_any (Q := fun _ => True) no kd none [] 0 0 rfl w1 (GQ.nil w1) (by decide)
          rw [hX0, he0]; exact q)
        clear hX hex hX0 he0 hall htk
        go_wp2_with (first
          | (go_at_call 19; refine HF.out.mono ?_; rintro e w1 ⟨xa, xc, rfl, H1⟩)
          | (go_at_call 20; refine (HR0.out w3).mono ?_; rintro e w4 ⟨ua, uc, rfl, H4⟩
             have A4 := hid (((H1.out.2.2.2.trans H2.out.2.2.2).trans H3.out.2.2.2).trans H4.out.2.2.2)
             have v1 := conv_at w4 xa X xc (((H1.out.1.adds H2.out.2.2.2).adds H3.out.2.2.2).adds H4.out.2.2.2)
             have v2 := conv_at w4 ya X yc ((H2.out.1.adds H3.out.2.2.2).adds H4.out.2.2.2)
             have v3 := conv_at w4 za X0 zc (H3.out.1.adds H4.out.2.2.2)
             have v4 := conv_at w4 ua X0 uc H4.out.1)
          | (go_at_call 20; refine (HR.out w1 H1.out.2.2.2).mono ?_; rintro e w2 ⟨ya, yc, rfl, H2⟩)
          | (go_at_call 21; refine (HF0.out w2).mono ?_; rintro e w3 ⟨za, zc, rfl, H3⟩)
          | (go_at_call 18; refine (works9 w4).mono ?_; rintro e w5 ⟨rfl, hA5⟩; have A5 := hid (A4.out.trans hA5); clear hA5))
        go_ret
        exact ⟨rfl, A5.out⟩
end Go.Proofs.Ytidkmamjhpckgaa
