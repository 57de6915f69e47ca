/- What a value is put as. -/
import Derived.Test.YtkkmbpcmkhikkaaBody
import Derived.Test.YtkkmbpcmkhikkaaOrder
namespace Go.Proofs.Ytkkmbpcmkhikkaa
open Go.RowKit

theorem set4 {w w' : World} {a1 a2 a3 a4 : Value} (p : Nat) (hp : w.heap.size ≤ p) (h : Adds w w') :
    Adds w ((((w'.setCell ⟨p, 0, none⟩ a1).setCell ⟨p, 1, none⟩ a2).setCell ⟨p, 2, none⟩ a3).setCell ⟨p, 3, none⟩ a4) :=
  have no : ∀ {x : Nat}, w.heap.size ≤ x → x < w.heap.size → False := fun h1 h2 => by omega
  (((h.setCell (no hp) _).setCell (no hp) _).setCell (no hp) _).setCell (no hp) _
/-- The three parts, joined. -/
theorem join_any {w w0 w2 : World} {p : M.V} {a1 a2 : Option Addr} {cap1 cap2 : Nat} {c : UInt8} (h0 : Adds w w0) (hA : Adds w0 w2) (h1 : At w2 a1 [c]) (n1 : a1 = none → cap1 = 0) (h2 : Lies w2 w2.heap.size a2 (M.body p) cap2) (hl : (M.body p).length ≤ 74) :
    Calls Try.prog 46 #[.slice (some ⟨w2.heap.size, 0, none⟩) 3 3] (w2.alloc (.cells #[.slice none 0 0, .slice a1 1 cap1, .slice a2 (M.body p).length cap2] 32)) fun e w' => POwn w (c :: M.body p) e w' ∧ Adds (w2.alloc (.cells #[.slice none 0 0, .slice a1 1 cap1, .slice a2 (M.body p).length cap2] 32)) w' := by
  have hf : flat [⟨none, [], 0⟩, ⟨a1, [c], cap1⟩, ⟨a2, M.body p, cap2⟩] = c :: M.body p := by simp [flat]
  refine (concat_any w2.heap.size [⟨none, [], 0⟩, ⟨a1, [c], cap1⟩, ⟨a2, M.body p, cap2⟩] _ (by simp) (by rw [hf, List.length_cons]; omega) (Parts.three (x := ⟨none, [], 0⟩) (y := ⟨a1, [c], cap1⟩) (u := ⟨a2, M.body p, cap2⟩) (At.nil _ _) h1 h2.at_ (fun _ => rfl) n1 h2.non)).mono ?_
  rintro e w' ⟨v, rfl, h3, h4⟩
  rw [hf] at h3
  have h5 : Adds w (w2.alloc (.cells #[.slice none 0 0, .slice a1 1 cap1, .slice a2 (M.body p).length cap2] 32)) := (h0.trans hA).alloc _
  exact ⟨⟨v, rfl, own_base h3 h5.size, h5.trans h4⟩, h4⟩
set_option maxRecDepth 100000 in
set_option maxHeartbeats 2000000 in
theorem put_any (v : M.V) (hv : v.Ok) (w : World) : Calls Try.prog 31 #[.slice none 0 0, VV v] w (POwn w (M.put v)) := by
  have hs := hst
  have HP := hid (M.plain_is hv)
  have HB := hid (Box.fresh w v)
  have HV := hid (plain_any v)
  have HM := hid (show M.put v = UInt8.ofNat (M.plain v).k.toNat :: M.body (M.plain v) from rfl)
  unfold VV at HV ⊢
  go_enter Try.func31, Try.ntmps31
  go_upto_region 2 with (first | (go_at_call 42; refine (HV.out _).mono ?_; rintro e w1 ⟨rfl, hA⟩; have b1 := HB.out.adds hA; have c0 := cellOf b1 0; have c1 := cellOf b1 1; have c2 := cellOf b1 2; have c3 := cellOf b1 3; have f0 := frozen_of_row w1 _ 0 _ 47 b1; have f1 := frozen_of_row w1 _ 1 _ 47 b1; have f2 := frozen_of_row w1 _ 2 _ 47 b1; have f3 := frozen_of_row w1 _ 3 _ 47 b1; have B1 := hid b1; have A1 := hid hA; clear b1 hA; simp at c0 c1 c2 c3))
  have Q2 := hid (And.intro (B1.out.store (M.plain v)) (set4 (a1 := .int .i64 (M.plain v).k) (a2 := .int .i64 (M.plain v).n) (a3 := .float .f64 (M.plain v).b) (a4 := .string ⟨(M.plain v).t.toArray⟩) w.heap.size (Nat.le_refl _) (((Touch.refl _ w).alloc _).trans A1.out)))
  clear c0 c1 c2 c3 f0 f1 f2 f3 B1 A1 HB HV hs
  generalize (((w1.setCell ⟨w.heap.size, 0, none⟩ (.int .i64 (M.plain v).k)).setCell ⟨w.heap.size, 1, none⟩ (.int .i64 (M.plain v).n)).setCell ⟨w.heap.size, 2, none⟩ (.float .f64 (M.plain v).b)).setCell ⟨w.heap.size, 3, none⟩ (.string ⟨(M.plain v).t.toArray⟩) = w2 at *
  generalize M.plain v = q at *
  obtain ⟨k, n, b, t⟩ := q
  have HL := hid (M.len_body HP.out)
  have HY := hid (fun w => body_any ⟨k, n, b, t⟩ HP.out w)
  unfold VV at HY
  obtain ⟨c, hc⟩ : ∃ c : UInt8, c = UInt8.ofNat k.toNat := ⟨_, rfl⟩
  have hk : IntKind.u8.wrap k = (c.toNat : Int) := by have := HP.out.fit.kind; simp only at this; rw [hc, M.ofNat_toNat _ (by omega), IntKind.wrap_u8]; omega
  have HM' := hid (show M.put v = c :: M.body ⟨k, n, b, t⟩ by rw [HM.out, hc])
  clear HM hc
  have hS : Adds w2 w2.drew := (Touch.refl _ w2).drew
  refine H_begin (S := fun w' => Adds w2 w') (by kernel_rfl) ?_
  refine H_put (i := 0) 7 (v := .slice none 0 0) rfl rfl (by kernel_rfl) (by kernel_rfl) (by kernel_rfl) (fun _ _ _ h => h) (Or.inl ⟨by rfl, fun w' hw' => ?_⟩) hS ?_
  · go_simp
  simp only [Act.put, List.setIfInBounds_toArray, List.set_cons_zero, List.set_cons_succ]
  refine H_put (i := 1) 8 (v := .pointer (some ⟨w.heap.size, 0, none⟩)) rfl rfl (by kernel_rfl) (by kernel_rfl) (by kernel_rfl) (fun _ _ _ h => h) (Or.inl ⟨by rfl, fun w' hw' => ?_⟩) hS ?_
  · go_simp
  simp only [Act.put, List.setIfInBounds_toArray, List.set_cons_zero, List.set_cons_succ]
  refine H_put (i := 2) 9 (v := .int .i64 k) rfl rfl (by kernel_rfl) (by kernel_rfl) (by kernel_rfl) (fun _ _ _ h => h) (Or.inl ⟨by rfl, fun w' hw' => ?_⟩) hS ?_
  · have c0 := cellOf (Q2.out.1.adds hw') 0; simp at c0; go_simp
  simp only [Act.put, List.setIfInBounds_toArray, List.set_cons_zero, List.set_cons_succ]
  refine H_put (i := 3) 10 (v := .int .u8 (c.toNat : Int)) rfl rfl (by kernel_rfl) (by kernel_rfl) (by kernel_rfl) (fun _ _ _ h => h) (Or.inl ⟨by rfl, fun w' hw' => ?_⟩) hS ?_
  · go_simp
  simp only [Act.put, List.setIfInBounds_toArray, List.set_cons_zero, List.set_cons_succ]
  refine H_put (i := 5) 12 (v := .agg #[.int .i64 k, .int .i64 n, .float .f64 b, .string ⟨t.toArray⟩]) rfl rfl (by kernel_rfl) (by kernel_rfl) (by kernel_rfl) (fun _ _ _ h => h) (Or.inl ⟨by rfl, fun w' hw' => ?_⟩) hS ?_
  · have c0 := cellOf (Q2.out.1.adds hw') 0; have c1 := cellOf (Q2.out.1.adds hw') 1; have c2 := cellOf (Q2.out.1.adds hw') 2; have c3 := cellOf (Q2.out.1.adds hw') 3; simp at c0 c1 c2 c3; go_simp
  simp only [Act.put, List.setIfInBounds_toArray, List.set_cons_zero, List.set_cons_succ]
  refine wpAnyH_all (rs := [4, 6]) (by kernel_rfl) (by simp) (fun j hj => ?_)
  rcases List.mem_cons.1 hj with rfl | hj
  · refine O_value (i := 4) 11 (v := .slice (some ⟨w2.heap.size, 0, none⟩) 1 1) (w' := w2.drew.alloc (.cells #[.int .u8 (c.toNat : Int)] 5)) rfl rfl (by rfl) (by go_simp) (fun w' => Adds (w2.drew.alloc (.cells #[.int .u8 (c.toNat : Int)] 5)) w') (fun w' h => (hS.alloc _).trans h) (Touch.refl _ _) ?_
    simp only [Act.put, List.setIfInBounds_toArray, List.set_cons_zero, List.set_cons_succ]
    refine H_call (i := 6) 13 48 #[.agg #[.int .i64 k, .int .i64 n, .float .f64 b, .string ⟨t.toArray⟩]] (by kernel_rfl) rfl rfl (by rfl) (by go_simp) (HY.out _) ?_
    rintro e w4 ⟨v4, rfl, h1, h2⟩
    obtain ⟨a4, cap4, rfl, hL4⟩ := Own.lies h1
    have HL4 := hid hL4
    have HA4 := hid h2
    refine ⟨_, fun w' => Adds w4 w', rfl, Touch.refl _ _, fun w' h => HA4.out.trans h, ?_⟩
    clear h1 h2 hL4
    simp only [Act.put, List.setIfInBounds_toArray, List.set_cons_zero, List.set_cons_succ]
    refine wpAnyH_all (rs := [7]) (by kernel_rfl) (by simp) (fun j hj => ?_)
    obtain rfl := List.mem_singleton.1 hj
    refine O_value (i := 7) 14 (v := .slice (some ⟨w4.heap.size, 0, none⟩) 3 3) (w' := w4.alloc (.cells #[.slice none 0 0, .slice (some ⟨w2.heap.size, 0, none⟩) 1 1, .slice a4 (M.body ⟨k, n, b, t⟩).length cap4] 32)) rfl rfl (by rfl) (by go_simp) (fun w' => Adds (w4.alloc (.cells #[.slice none 0 0, .slice (some ⟨w2.heap.size, 0, none⟩) 1 1, .slice a4 (M.body ⟨k, n, b, t⟩).length cap4] 32)) w') (fun w' h => ((Touch.refl _ w4).alloc _).trans h) (Touch.refl _ _) ?_
    simp only [Act.put, List.setIfInBounds_toArray, List.set_cons_zero, List.set_cons_succ]
    refine H_call (i := 8) 15 46 #[.slice (some ⟨w4.heap.size, 0, none⟩) 3 3] (by kernel_rfl) rfl rfl (by rfl) (by go_simp) (join_any (p := ⟨k, n, b, t⟩) Q2.out.2 ((hS.alloc _).trans HA4.out) ((At.one w2.drew c).adds HA4.out) (fun e => by cases e) HL4.out HL.out) ?_
    rintro e w6 ⟨⟨v6, rfl, h5, h6⟩, h7⟩
    have HZ := hid (And.intro h5 h6)
    refine ⟨_, fun w' => Adds w6 w', rfl, Touch.refl _ _, fun w' h => h7.trans h, ?_⟩
    simp only [Act.put, List.setIfInBounds_toArray, List.set_cons_zero, List.set_cons_succ]
    refine H_put (i := 9) 4 (v := v6) rfl rfl (by kernel_rfl) (by kernel_rfl) (by kernel_rfl) (fun _ _ _ h => h) (Or.inl ⟨by rfl, fun w' hw' => ?_⟩) (Touch.refl _ _) ?_
    · go_simp
    simp only [Act.put, List.setIfInBounds_toArray, List.set_cons_zero, List.set_cons_succ]
    refine wpAnyH_done (by kernel_rfl) ?_ _
    clear h5 h6 h7
    go_wp2_with fail
    go_ret
    rw [HM'.out]
    exact ⟨_, rfl, HZ.out.1, HZ.out.2⟩
  · obtain rfl := List.mem_singleton.1 hj
    refine O_call (i := 6) 13 48 #[.agg #[.int .i64 k, .int .i64 n, .float .f64 b, .string ⟨t.toArray⟩]] rfl rfl (by rfl) (by go_simp) (HY.out _) ?_
    rintro e w4 ⟨v4, rfl, h1, h2⟩
    obtain ⟨a4, cap4, rfl, hL4⟩ := Own.lies h1
    have HL4 := hid (show Lies (w4.alloc (.cells #[.int .u8 (c.toNat : Int)] 5)) (w4.alloc (.cells #[.int .u8 (c.toNat : Int)] 5)).heap.size a4 (M.body ⟨k, n, b, t⟩) cap4 from ⟨hL4.at_.adds ((Touch.refl _ w4).alloc _), hL4.room, hL4.non, fun ad e => ⟨(hL4.low ad e).1, by have := (hL4.low ad e).2; simp; omega⟩⟩)
    have HA4 := hid h2
    refine ⟨_, fun w' => Adds w4 w', rfl, Touch.refl _ _, fun w' h => (hS.trans HA4.out).trans h, ?_⟩
    clear h1 h2 hL4
    simp only [Act.put, List.setIfInBounds_toArray, List.set_cons_zero, List.set_cons_succ]
    refine wpAnyH_all (rs := [4]) (by kernel_rfl) (by simp) (fun j hj => ?_)
    obtain rfl := List.mem_singleton.1 hj
    refine O_value (i := 4) 11 (v := .slice (some ⟨w4.heap.size, 0, none⟩) 1 1) (w' := w4.alloc (.cells #[.int .u8 (c.toNat : Int)] 5)) rfl rfl (by rfl) (by go_simp) (fun w' => Adds (w4.alloc (.cells #[.int .u8 (c.toNat : Int)] 5)) w') (fun w' h => ((Touch.refl _ w4).alloc _).trans h) (Touch.refl _ _) ?_
    simp only [Act.put, List.setIfInBounds_toArray, List.set_cons_zero, List.set_cons_succ]
    have HAT := hid (At.one w4 c)
    have HA5 := hid ((hS.trans HA4.out).alloc (.cells #[.int .u8 (c.toNat : Int)] 5))
    generalize hw5 : w4.alloc (.cells #[.int .u8 (c.toNat : Int)] 5) = w5 at *
    refine wpAnyH_all (rs := [7]) (by kernel_rfl) (by simp) (fun j hj => ?_)
    obtain rfl := List.mem_singleton.1 hj
    refine O_value (i := 7) 14 (v := .slice (some ⟨w5.heap.size, 0, none⟩) 3 3) (w' := w5.alloc (.cells #[.slice none 0 0, .slice (some ⟨w4.heap.size, 0, none⟩) 1 1, .slice a4 (M.body ⟨k, n, b, t⟩).length cap4] 32)) rfl rfl (by rfl) (by go_simp) (fun w' => Adds (w5.alloc (.cells #[.slice none 0 0, .slice (some ⟨w4.heap.size, 0, none⟩) 1 1, .slice a4 (M.body ⟨k, n, b, t⟩).length cap4] 32)) w') (fun w' h => ((Touch.refl _ w5).alloc _).trans h) (Touch.refl _ _) ?_
    simp only [Act.put, List.setIfInBounds_toArray, List.set_cons_zero, List.set_cons_succ]
    refine H_call (i := 8) 15 46 #[.slice (some ⟨w5.heap.size, 0, none⟩) 3 3] (by kernel_rfl) rfl rfl (by rfl) (by go_simp) (join_any (p := ⟨k, n, b, t⟩) Q2.out.2 HA5.out HAT.out (fun e => by cases e) HL4.out HL.out) ?_
    rintro e w6 ⟨⟨v6, rfl, h5, h6⟩, h7⟩
    have HZ := hid (And.intro h5 h6)
    refine ⟨_, fun w' => Adds w6 w', rfl, Touch.refl _ _, fun w' h => h7.trans h, ?_⟩
    simp only [Act.put, List.setIfInBounds_toArray, List.set_cons_zero, List.set_cons_succ]
    refine H_put (i := 9) 4 (v := v6) rfl rfl (by kernel_rfl) (by kernel_rfl) (by kernel_rfl) (fun _ _ _ h => h) (Or.inl ⟨by rfl, fun w' hw' => ?_⟩) (Touch.refl _ _) ?_
    · go_simp
    simp only [Act.put, List.setIfInBounds_toArray, List.set_cons_zero, List.set_cons_succ]
    refine wpAnyH_done (by kernel_rfl) ?_ _
    clear h5 h6 h7
    go_wp2_with fail
    go_ret
    rw [HM'.out]
    exact ⟨_, rfl, HZ.out.1, HZ.out.2⟩
end Go.Proofs.Ytkkmbpcmkhikkaa
