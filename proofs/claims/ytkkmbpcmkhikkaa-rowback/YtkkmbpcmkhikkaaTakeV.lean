/- A value is taken as it was put. -/
import Derived.Test.YtkkmbpcmkhikkaaSmall
import Derived.Test.YtkkmbpcmkhikkaaKeep
namespace Go.Proofs.Ytkkmbpcmkhikkaa
open Go.RowKit

theorem Box.s0 {w : World} {p : Nat} {u : M.V} (h : Box w p u) (x : Int) : Box (w.setCell ⟨p, 0, none⟩ (.int .i64 x)) p ⟨x, u.n, u.b, u.t⟩ := heap_setCell_same _ p 0 _ 47 _ h
theorem Box.s1 {w : World} {p : Nat} {u : M.V} (h : Box w p u) (x : Int) : Box (w.setCell ⟨p, 1, none⟩ (.int .i64 x)) p ⟨u.k, x, u.b, u.t⟩ := heap_setCell_same _ p 1 _ 47 _ h
theorem Box.s2 {w : World} {p : Nat} {u : M.V} (h : Box w p u) (x : Nat) : Box (w.setCell ⟨p, 2, none⟩ (.float .f64 x)) p ⟨u.k, u.n, x, u.t⟩ := heap_setCell_same _ p 2 _ 47 _ h
theorem Box.s3 {w : World} {p : Nat} {u : M.V} (h : Box w p u) (x : List UInt8) : Box (w.setCell ⟨p, 3, none⟩ (.string ⟨x.toArray⟩)) p ⟨u.k, u.n, u.b, x⟩ := heap_setCell_same _ p 3 _ 47 _ h
theorem Box.cold {w : World} {p : Nat} {u : M.V} (h : Box w p u) : Cold w p := by
  intro j c
  rw [cellOf h j]
  match j with
  | 0 => simp
  | 1 => simp
  | 2 => simp
  | 3 => simp
  | j + 4 => simp
/-- A reader, while a value's box is turned. -/
theorem RD.box {w : World} {p r j : Nat} {s : M.St} {u : M.V} (h : RD w (.pointer (some ⟨r, 0, none⟩)) s) (hb : Box w p u) (hne : r ≠ p) (x : Value) : RD (w.setCell ⟨p, j, none⟩ x) (.pointer (some ⟨r, 0, none⟩)) s :=
  h.keep (Touch.setCell (T := fun k => k = p) (Touch.refl _ w) (fun _ => rfl) x) (fun k hk => by subst hk; exact hb.cold) (fun k hk hk2 => by
    subst hk2
    simp only [Own1, Value.pointer.injEq, Option.some.injEq, Addr.mk.injEq] at hk
    omega)
theorem RD.store {w : World} {p r : Nat} {s : M.St} {u : M.V} (h : RD w (.pointer (some ⟨r, 0, none⟩)) s) (hb : Box w p u) (hne : r ≠ p) (v : M.V) :
    RD ((((w.setCell ⟨p, 0, none⟩ (.int .i64 v.k)).setCell ⟨p, 1, none⟩ (.int .i64 v.n)).setCell ⟨p, 2, none⟩ (.float .f64 v.b)).setCell ⟨p, 3, none⟩ (.string ⟨v.t.toArray⟩)) (.pointer (some ⟨r, 0, none⟩)) s :=
  (((h.box hb hne _).box (hb.s0 _) hne _).box ((hb.s0 _).s1 _) hne _).box (((hb.s0 _).s1 _).s2 _) hne _
theorem Box.touch {w w' : World} {p r : Nat} {u : M.V} (h : Box w p u) (hT : Touch (Own1 (.pointer (some ⟨r, 0, none⟩))) w w') (hne : r ≠ p) : Box w' p u := by
  unfold Box
  rw [hT.block p (lt_of_heap h) (fun c => by simp only [Own1, Value.pointer.injEq, Option.some.injEq, Addr.mk.injEq] at c; omega)]
  exact h
/-- What a reader's Byte tells of a byte. -/
theorem byte_put {r : Nat} {c : UInt8} {l : List UInt8} {w : World} (h : RD w (.pointer (some ⟨r, 0, none⟩)) ⟨0, c :: l⟩) : Calls Try.prog 50 #[.pointer (some ⟨r, 0, none⟩)] w (PR w (.pointer (some ⟨r, 0, none⟩)) (.int .u8 (c.toNat : Int)) ⟨0, l⟩) := by
  have h1 := byte_any h
  rw [M.byte_cons] at h1; exact h1
theorem int_put {r : Nat} {z : Int} {l : List UInt8} {w : World} (hz : -9223372036854775808 ≤ z ∧ z ≤ 9223372036854775807) (h : RD w (.pointer (some ⟨r, 0, none⟩)) ⟨0, M.enc (M.zig z) ++ l⟩) : Calls Try.prog 51 #[.pointer (some ⟨r, 0, none⟩)] w (PR w (.pointer (some ⟨r, 0, none⟩)) (.int .i64 z) ⟨0, l⟩) := by
  have h1 := int_any h
  rw [M.int_put hz] at h1; exact h1
theorem float_put {r : Nat} {b : Nat} {l : List UInt8} {w : World} (hb : b < 18446744073709551616) (hc : M.canon b = b) (h : RD w (.pointer (some ⟨r, 0, none⟩)) ⟨0, M.fix (M.canon b) 8 ++ l⟩) : Calls Try.prog 52 #[.pointer (some ⟨r, 0, none⟩)] w (PR w (.pointer (some ⟨r, 0, none⟩)) (.float .f64 b) ⟨0, l⟩) := by
  rw [hc] at h
  have h1 := float_any h
  rw [M.float_put hb hc] at h1; exact h1
theorem text_put {r : Nat} {t : List UInt8} {l : List UInt8} {w : World} (ht : t.length ≤ 64) (h : RD w (.pointer (some ⟨r, 0, none⟩)) ⟨0, (M.enc t.length ++ t) ++ l⟩) : Calls Try.prog 53 #[.pointer (some ⟨r, 0, none⟩), .int .i64 64] w (PR w (.pointer (some ⟨r, 0, none⟩)) (.string ⟨t.toArray⟩) ⟨0, l⟩) := by
  have h1 := text_any 64 (by omega) h
  rw [M.text_put ht] at h1; exact h1
theorem err_none {r : Nat} {l : List UInt8} {w : World} (h : RD w (.pointer (some ⟨r, 0, none⟩)) ⟨0, l⟩) : Calls Try.prog 33 #[.pointer (some ⟨r, 0, none⟩)] w fun e w' => e = .returned (.int .i64 0) ∧ w' = w := err_any h
/-- What is taken. -/
def PTaken (w : World) (r : Nat) (v : Value) (l : List UInt8) (e : Ending) (w' : World) : Prop :=
  e = .returned (.tuple #[v, .int .i64 0]) ∧ RD w' (.pointer (some ⟨r, 0, none⟩)) ⟨0, l⟩ ∧ Touch (Own1 (.pointer (some ⟨r, 0, none⟩))) w w'
theorem right_of {p : M.V} (h : M.IsPlain p) (w : World) : Calls Try.prog 28 #[VV p] w (Tells w (.bool true)) := by
  have := right_any p w
  rw [(M.right_iff p).2 h.fit] at this
  exact this
set_option maxHeartbeats 1000000 in
theorem take0 {r : Nat} {l : List UInt8} {w : World} (hP : M.IsPlain ⟨0, 0, 0, []⟩) (HR : Hid (RD w (.pointer (some ⟨r, 0, none⟩)) ⟨0, UInt8.ofNat 0 :: (M.body ⟨0, 0, 0, []⟩ ++ l)⟩)) :
    Calls Try.prog 34 #[.pointer (some ⟨r, 0, none⟩)] w (PTaken w r (.agg #[.int .i64 0, .int .i64 0, .float .f64 0, .string ⟨#[]⟩]) l) := by
  have hs := hst
  have HNE := hid (show r ≠ w.heap.size by have := HR.out.lt; omega)
  have B1 := hid (fun w' (h : RD w' (.pointer (some ⟨r, 0, none⟩)) ⟨0, UInt8.ofNat 0 :: (M.body ⟨0, 0, 0, []⟩ ++ l)⟩) => show Calls Try.prog 50 #[.pointer (some ⟨r, 0, none⟩)] w' (PR w' (.pointer (some ⟨r, 0, none⟩)) (.int .u8 0) ⟨0, M.body ⟨0, 0, 0, []⟩ ++ l⟩) from byte_put h)
  have RT := hid (right_of hP)
  have HP := hid hP
  clear hP
  unfold VV at RT
  go_enter Try.func34, Try.ntmps34
  go_wp2_with (first
    | (go_at_call 28; refine (RT.out _).mono ?_; rintro e w4 ⟨rfl, hA⟩; have bq := (Box.fresh w1 ⟨0, 0, 0, []⟩).adds hA; have bp := (BP.out.adds (alloc_adds _ _)).adds hA; have c0 := cellOf bq 0; have c1 := cellOf bq 1; have c2 := cellOf bq 2; have c3 := cellOf bq 3; have d0 := cellOf bp 0; have d1 := cellOf bp 1; have d2 := cellOf bp 2; have d3 := cellOf bp 3; have fd0 := frozen_of_row w4 _ 0 _ 47 bp; have fd1 := frozen_of_row w4 _ 1 _ 47 bp; have fd2 := frozen_of_row w4 _ 2 _ 47 bp; have fd3 := frozen_of_row w4 _ 3 _ 47 bp; have B4 := hid bp; have A4 := hid (Touch.trans (T1.out.alloc _) (hA.mono fun _ _ h => h.elim)); have R4 := hid ((R1.out.adds (alloc_adds _ _)).adds hA); clear bq bp hA; simp [M.V0] at c0 c1 c2 c3 d0 d1 d2 d3)
    | (go_at_call 33; refine (err_none (R1.out.adds (alloc_adds _ _))).mono ?_; rintro e w' ⟨rfl, hw⟩; obtain rfl := hw.symm)
    | (go_at_call 50; refine (B1.out _ (HR.out.adds (alloc_adds _ _))).mono ?_; rintro e w1 ⟨rfl, hR1, hT1⟩; have R1 := hid hR1; have T1 := hid (Touch.trans ((Touch.refl _ w).alloc _) hT1); have BP := hid ((Box.fresh w M.V0).touch hT1 HNE.out); have HS1 := hid (show r < w1.heap.size ∧ w.heap.size < w1.heap.size from ⟨hR1.lt, by have h := hT1.size; simp at h; omega⟩); clear hR1 hT1))
  refine bodyPost_ret (v := .tuple #[.agg #[.int .i64 0, .int .i64 0, .float .f64 0, .string ⟨#[]⟩], .int .i64 0]) (by simp [results, Try.results34, go_sem, d0, d1, d2, d3]) rfl ⟨rfl, R4.out.store B4.out HNE.out ⟨0, 0, 0, []⟩, ?_⟩
  exact ((((A4.out.setCell (fun h => absurd h (by simp)) _).setCell (fun h => absurd h (by simp)) _).setCell (fun h => absurd h (by simp)) _).setCell (fun h => absurd h (by simp)) _)
set_option maxHeartbeats 1000000 in
theorem take10 {r : Nat} {l : List UInt8} {w : World} (hP : M.IsPlain ⟨1, 0, 0, []⟩) (HR : Hid (RD w (.pointer (some ⟨r, 0, none⟩)) ⟨0, UInt8.ofNat 1 :: (M.body ⟨1, 0, 0, []⟩ ++ l)⟩)) :
    Calls Try.prog 34 #[.pointer (some ⟨r, 0, none⟩)] w (PTaken w r (.agg #[.int .i64 1, .int .i64 0, .float .f64 0, .string ⟨#[]⟩]) l) := by
  have hs := hst
  have HNE := hid (show r ≠ w.heap.size by have := HR.out.lt; omega)
  have B1 := hid (fun w' (h : RD w' (.pointer (some ⟨r, 0, none⟩)) ⟨0, UInt8.ofNat 1 :: (M.body ⟨1, 0, 0, []⟩ ++ l)⟩) => show Calls Try.prog 50 #[.pointer (some ⟨r, 0, none⟩)] w' (PR w' (.pointer (some ⟨r, 0, none⟩)) (.int .u8 1) ⟨0, M.body ⟨1, 0, 0, []⟩ ++ l⟩) from byte_put h)
  have RT := hid (right_of hP)
  have HP := hid hP
  clear hP
  unfold VV at RT
  go_enter Try.func34, Try.ntmps34
  go_wp2_with (first
    | (go_at_call 28; refine (RT.out _).mono ?_; rintro e w4 ⟨rfl, hA⟩; have bq := BQ.out.adds hA; have bp := BP2.out.adds hA; have c0 := cellOf bq 0; have c1 := cellOf bq 1; have c2 := cellOf bq 2; have c3 := cellOf bq 3; have d0 := cellOf bp 0; have d1 := cellOf bp 1; have d2 := cellOf bp 2; have d3 := cellOf bp 3; have fd0 := frozen_of_row w4 _ 0 _ 47 bp; have fd1 := frozen_of_row w4 _ 1 _ 47 bp; have fd2 := frozen_of_row w4 _ 2 _ 47 bp; have fd3 := frozen_of_row w4 _ 3 _ 47 bp; have B4 := hid bp; have A4 := hid (Touch.trans T3.out (hA.mono fun _ _ h => h.elim)); have R4 := hid (R3.out.adds hA); clear bq bp hA; simp [M.V0] at c0 c1 c2 c3 d0 d1 d2 d3)
    | (go_at_call 33; refine (err_none R3.out).mono ?_; rintro e w' ⟨rfl, hw⟩; obtain rfl := hw.symm)
    | (go_at_call 50; have R1 := R1; refine ((fun h => show Calls Try.prog 50 #[.pointer (some ⟨r, 0, none⟩)] _ (PR _ (.pointer (some ⟨r, 0, none⟩)) (.int .u8 0) ⟨0, l⟩) from byte_put (c := UInt8.ofNat 0) h) (R1.out.adds (alloc_adds _ _))).mono ?_; rintro e w2 ⟨rfl, hR2, hT2⟩; have bq := (Box.fresh w1 ⟨1, 0, 0, []⟩).touch hT2 (by have := HS1.out.1; omega); have bp := (BP.out.adds (alloc_adds _ _)).touch hT2 HNE.out; have c0 := cellOf bq 0; have c1 := cellOf bq 1; have c2 := cellOf bq 2; have c3 := cellOf bq 3; have fc0 := frozen_of_row w2 _ 0 _ 47 bq; have fc1 := frozen_of_row w2 _ 1 _ 47 bq; have fc2 := frozen_of_row w2 _ 2 _ 47 bq; have fc3 := frozen_of_row w2 _ 3 _ 47 bq; have R3 := hid (hR2.box (j := 1) bq (by have := HS1.out.1; omega) (.int .i64 0)); have BQ := hid (bq.s1 0); have BP2 := hid (bp.off (q := w1.heap.size) (j := 1) (by have := HS1.out.2; omega) (.int .i64 0)); have T3 := hid ((Touch.trans (T1.out.alloc _) hT2).setCell (p := ⟨w1.heap.size, 1, none⟩) (fun (h : w1.heap.size < w.heap.size) => absurd h (by have := HS1.out.2; omega)) (.int .i64 0)); clear bq bp hR2 hT2; simp at c0 c1 c2 c3)
    | (go_at_call 50; refine (B1.out _ (HR.out.adds (alloc_adds _ _))).mono ?_; rintro e w1 ⟨rfl, hR1, hT1⟩; have R1 := hid hR1; have T1 := hid (Touch.trans ((Touch.refl _ w).alloc _) hT1); have BP := hid ((Box.fresh w M.V0).touch hT1 HNE.out); have HS1 := hid (show r < w1.heap.size ∧ w.heap.size < w1.heap.size from ⟨hR1.lt, by have h := hT1.size; simp at h; omega⟩); clear hR1 hT1))
  refine bodyPost_ret (v := .tuple #[.agg #[.int .i64 1, .int .i64 0, .float .f64 0, .string ⟨#[]⟩], .int .i64 0]) (by simp [results, Try.results34, go_sem, d0, d1, d2, d3]) rfl ⟨rfl, R4.out.store B4.out HNE.out ⟨1, 0, 0, []⟩, ?_⟩
  exact ((((A4.out.setCell (fun h => absurd h (by simp)) _).setCell (fun h => absurd h (by simp)) _).setCell (fun h => absurd h (by simp)) _).setCell (fun h => absurd h (by simp)) _)
set_option maxHeartbeats 1000000 in
theorem take11 {r : Nat} {l : List UInt8} {w : World} (hP : M.IsPlain ⟨1, 1, 0, []⟩) (HR : Hid (RD w (.pointer (some ⟨r, 0, none⟩)) ⟨0, UInt8.ofNat 1 :: (M.body ⟨1, 1, 0, []⟩ ++ l)⟩)) :
    Calls Try.prog 34 #[.pointer (some ⟨r, 0, none⟩)] w (PTaken w r (.agg #[.int .i64 1, .int .i64 1, .float .f64 0, .string ⟨#[]⟩]) l) := by
  have hs := hst
  have HNE := hid (show r ≠ w.heap.size by have := HR.out.lt; omega)
  have B1 := hid (fun w' (h : RD w' (.pointer (some ⟨r, 0, none⟩)) ⟨0, UInt8.ofNat 1 :: (M.body ⟨1, 1, 0, []⟩ ++ l)⟩) => show Calls Try.prog 50 #[.pointer (some ⟨r, 0, none⟩)] w' (PR w' (.pointer (some ⟨r, 0, none⟩)) (.int .u8 1) ⟨0, M.body ⟨1, 1, 0, []⟩ ++ l⟩) from byte_put h)
  have RT := hid (right_of hP)
  have HP := hid hP
  clear hP
  unfold VV at RT
  go_enter Try.func34, Try.ntmps34
  go_wp2_with (first
    | (go_at_call 28; refine (RT.out _).mono ?_; rintro e w4 ⟨rfl, hA⟩; have bq := BQ.out.adds hA; have bp := BP2.out.adds hA; have c0 := cellOf bq 0; have c1 := cellOf bq 1; have c2 := cellOf bq 2; have c3 := cellOf bq 3; have d0 := cellOf bp 0; have d1 := cellOf bp 1; have d2 := cellOf bp 2; have d3 := cellOf bp 3; have fd0 := frozen_of_row w4 _ 0 _ 47 bp; have fd1 := frozen_of_row w4 _ 1 _ 47 bp; have fd2 := frozen_of_row w4 _ 2 _ 47 bp; have fd3 := frozen_of_row w4 _ 3 _ 47 bp; have B4 := hid bp; have A4 := hid (Touch.trans T3.out (hA.mono fun _ _ h => h.elim)); have R4 := hid (R3.out.adds hA); clear bq bp hA; simp [M.V0] at c0 c1 c2 c3 d0 d1 d2 d3)
    | (go_at_call 33; refine (err_none R3.out).mono ?_; rintro e w' ⟨rfl, hw⟩; obtain rfl := hw.symm)
    | (go_at_call 50; have R1 := R1; refine ((fun h => show Calls Try.prog 50 #[.pointer (some ⟨r, 0, none⟩)] _ (PR _ (.pointer (some ⟨r, 0, none⟩)) (.int .u8 1) ⟨0, l⟩) from byte_put (c := UInt8.ofNat 1) h) (R1.out.adds (alloc_adds _ _))).mono ?_; rintro e w2 ⟨rfl, hR2, hT2⟩; have bq := (Box.fresh w1 ⟨1, 0, 0, []⟩).touch hT2 (by have := HS1.out.1; omega); have bp := (BP.out.adds (alloc_adds _ _)).touch hT2 HNE.out; have c0 := cellOf bq 0; have c1 := cellOf bq 1; have c2 := cellOf bq 2; have c3 := cellOf bq 3; have fc0 := frozen_of_row w2 _ 0 _ 47 bq; have fc1 := frozen_of_row w2 _ 1 _ 47 bq; have fc2 := frozen_of_row w2 _ 2 _ 47 bq; have fc3 := frozen_of_row w2 _ 3 _ 47 bq; have R3 := hid (hR2.box (j := 1) bq (by have := HS1.out.1; omega) (.int .i64 1)); have BQ := hid (bq.s1 1); have BP2 := hid (bp.off (q := w1.heap.size) (j := 1) (by have := HS1.out.2; omega) (.int .i64 1)); have T3 := hid ((Touch.trans (T1.out.alloc _) hT2).setCell (p := ⟨w1.heap.size, 1, none⟩) (fun (h : w1.heap.size < w.heap.size) => absurd h (by have := HS1.out.2; omega)) (.int .i64 1)); clear bq bp hR2 hT2; simp at c0 c1 c2 c3)
    | (go_at_call 50; refine (B1.out _ (HR.out.adds (alloc_adds _ _))).mono ?_; rintro e w1 ⟨rfl, hR1, hT1⟩; have R1 := hid hR1; have T1 := hid (Touch.trans ((Touch.refl _ w).alloc _) hT1); have BP := hid ((Box.fresh w M.V0).touch hT1 HNE.out); have HS1 := hid (show r < w1.heap.size ∧ w.heap.size < w1.heap.size from ⟨hR1.lt, by have h := hT1.size; simp at h; omega⟩); clear hR1 hT1))
  refine bodyPost_ret (v := .tuple #[.agg #[.int .i64 1, .int .i64 1, .float .f64 0, .string ⟨#[]⟩], .int .i64 0]) (by simp [results, Try.results34, go_sem, d0, d1, d2, d3]) rfl ⟨rfl, R4.out.store B4.out HNE.out ⟨1, 1, 0, []⟩, ?_⟩
  exact ((((A4.out.setCell (fun h => absurd h (by simp)) _).setCell (fun h => absurd h (by simp)) _).setCell (fun h => absurd h (by simp)) _).setCell (fun h => absurd h (by simp)) _)
set_option maxHeartbeats 1000000 in
theorem take2 {n : Int} {r : Nat} {l : List UInt8} {w : World} (hP : M.IsPlain ⟨2, n, 0, []⟩) (HR : Hid (RD w (.pointer (some ⟨r, 0, none⟩)) ⟨0, UInt8.ofNat 2 :: (M.body ⟨2, n, 0, []⟩ ++ l)⟩)) :
    Calls Try.prog 34 #[.pointer (some ⟨r, 0, none⟩)] w (PTaken w r (.agg #[.int .i64 2, .int .i64 n, .float .f64 0, .string ⟨#[]⟩]) l) := by
  have hs := hst
  have HNE := hid (show r ≠ w.heap.size by have := HR.out.lt; omega)
  have B1 := hid (fun w' (h : RD w' (.pointer (some ⟨r, 0, none⟩)) ⟨0, UInt8.ofNat 2 :: (M.body ⟨2, n, 0, []⟩ ++ l)⟩) => show Calls Try.prog 50 #[.pointer (some ⟨r, 0, none⟩)] w' (PR w' (.pointer (some ⟨r, 0, none⟩)) (.int .u8 2) ⟨0, M.body ⟨2, n, 0, []⟩ ++ l⟩) from byte_put h)
  have RT := hid (right_of hP)
  have HP := hid hP
  clear hP
  unfold VV at RT
  go_enter Try.func34, Try.ntmps34
  go_wp2_with (first
    | (go_at_call 28; refine (RT.out _).mono ?_; rintro e w4 ⟨rfl, hA⟩; have bq := BQ.out.adds hA; have bp := BP2.out.adds hA; have c0 := cellOf bq 0; have c1 := cellOf bq 1; have c2 := cellOf bq 2; have c3 := cellOf bq 3; have d0 := cellOf bp 0; have d1 := cellOf bp 1; have d2 := cellOf bp 2; have d3 := cellOf bp 3; have fd0 := frozen_of_row w4 _ 0 _ 47 bp; have fd1 := frozen_of_row w4 _ 1 _ 47 bp; have fd2 := frozen_of_row w4 _ 2 _ 47 bp; have fd3 := frozen_of_row w4 _ 3 _ 47 bp; have B4 := hid bp; have A4 := hid (Touch.trans T3.out (hA.mono fun _ _ h => h.elim)); have R4 := hid (R3.out.adds hA); clear bq bp hA; simp [M.V0] at c0 c1 c2 c3 d0 d1 d2 d3)
    | (go_at_call 33; refine (err_none R3.out).mono ?_; rintro e w' ⟨rfl, hw⟩; obtain rfl := hw.symm)
    | (go_at_call 51; have R1 := R1; refine (int_put HP.out.ok.n (R1.out.adds (alloc_adds _ _))).mono ?_; rintro e w2 ⟨rfl, hR2, hT2⟩; have bq := (Box.fresh w1 ⟨2, 0, 0, []⟩).touch hT2 (by have := HS1.out.1; omega); have bp := (BP.out.adds (alloc_adds _ _)).touch hT2 HNE.out; have c0 := cellOf bq 0; have c1 := cellOf bq 1; have c2 := cellOf bq 2; have c3 := cellOf bq 3; have fc0 := frozen_of_row w2 _ 0 _ 47 bq; have fc1 := frozen_of_row w2 _ 1 _ 47 bq; have fc2 := frozen_of_row w2 _ 2 _ 47 bq; have fc3 := frozen_of_row w2 _ 3 _ 47 bq; have R3 := hid (hR2.box (j := 1) bq (by have := HS1.out.1; omega) (.int .i64 n)); have BQ := hid (bq.s1 n); have BP2 := hid (bp.off (q := w1.heap.size) (j := 1) (by have := HS1.out.2; omega) (.int .i64 n)); have T3 := hid ((Touch.trans (T1.out.alloc _) hT2).setCell (p := ⟨w1.heap.size, 1, none⟩) (fun (h : w1.heap.size < w.heap.size) => absurd h (by have := HS1.out.2; omega)) (.int .i64 n)); clear bq bp hR2 hT2; simp at c0 c1 c2 c3)
    | (go_at_call 50; refine (B1.out _ (HR.out.adds (alloc_adds _ _))).mono ?_; rintro e w1 ⟨rfl, hR1, hT1⟩; have R1 := hid hR1; have T1 := hid (Touch.trans ((Touch.refl _ w).alloc _) hT1); have BP := hid ((Box.fresh w M.V0).touch hT1 HNE.out); have HS1 := hid (show r < w1.heap.size ∧ w.heap.size < w1.heap.size from ⟨hR1.lt, by have h := hT1.size; simp at h; omega⟩); clear hR1 hT1))
  refine bodyPost_ret (v := .tuple #[.agg #[.int .i64 2, .int .i64 n, .float .f64 0, .string ⟨#[]⟩], .int .i64 0]) (by simp [results, Try.results34, go_sem, d0, d1, d2, d3]) rfl ⟨rfl, R4.out.store B4.out HNE.out ⟨2, n, 0, []⟩, ?_⟩
  exact ((((A4.out.setCell (fun h => absurd h (by simp)) _).setCell (fun h => absurd h (by simp)) _).setCell (fun h => absurd h (by simp)) _).setCell (fun h => absurd h (by simp)) _)
set_option maxHeartbeats 1000000 in
theorem take3 {b : Nat} {r : Nat} {l : List UInt8} {w : World} (hP : M.IsPlain ⟨3, 0, b, []⟩) (HR : Hid (RD w (.pointer (some ⟨r, 0, none⟩)) ⟨0, UInt8.ofNat 3 :: (M.body ⟨3, 0, b, []⟩ ++ l)⟩)) :
    Calls Try.prog 34 #[.pointer (some ⟨r, 0, none⟩)] w (PTaken w r (.agg #[.int .i64 3, .int .i64 0, .float .f64 b, .string ⟨#[]⟩]) l) := by
  have hs := hst
  have HNE := hid (show r ≠ w.heap.size by have := HR.out.lt; omega)
  have B1 := hid (fun w' (h : RD w' (.pointer (some ⟨r, 0, none⟩)) ⟨0, UInt8.ofNat 3 :: (M.body ⟨3, 0, b, []⟩ ++ l)⟩) => show Calls Try.prog 50 #[.pointer (some ⟨r, 0, none⟩)] w' (PR w' (.pointer (some ⟨r, 0, none⟩)) (.int .u8 3) ⟨0, M.body ⟨3, 0, b, []⟩ ++ l⟩) from byte_put h)
  have RT := hid (right_of hP)
  have HP := hid hP
  clear hP
  unfold VV at RT
  go_enter Try.func34, Try.ntmps34
  go_wp2_with (first
    | (go_at_call 28; refine (RT.out _).mono ?_; rintro e w4 ⟨rfl, hA⟩; have bq := BQ.out.adds hA; have bp := BP2.out.adds hA; have c0 := cellOf bq 0; have c1 := cellOf bq 1; have c2 := cellOf bq 2; have c3 := cellOf bq 3; have d0 := cellOf bp 0; have d1 := cellOf bp 1; have d2 := cellOf bp 2; have d3 := cellOf bp 3; have fd0 := frozen_of_row w4 _ 0 _ 47 bp; have fd1 := frozen_of_row w4 _ 1 _ 47 bp; have fd2 := frozen_of_row w4 _ 2 _ 47 bp; have fd3 := frozen_of_row w4 _ 3 _ 47 bp; have B4 := hid bp; have A4 := hid (Touch.trans T3.out (hA.mono fun _ _ h => h.elim)); have R4 := hid (R3.out.adds hA); clear bq bp hA; simp [M.V0] at c0 c1 c2 c3 d0 d1 d2 d3)
    | (go_at_call 33; refine (err_none R3.out).mono ?_; rintro e w' ⟨rfl, hw⟩; obtain rfl := hw.symm)
    | (go_at_call 52; have R1 := R1; refine (float_put HP.out.ok.b HP.out.same (R1.out.adds (alloc_adds _ _))).mono ?_; rintro e w2 ⟨rfl, hR2, hT2⟩; have bq := (Box.fresh w1 ⟨3, 0, 0, []⟩).touch hT2 (by have := HS1.out.1; omega); have bp := (BP.out.adds (alloc_adds _ _)).touch hT2 HNE.out; have c0 := cellOf bq 0; have c1 := cellOf bq 1; have c2 := cellOf bq 2; have c3 := cellOf bq 3; have fc0 := frozen_of_row w2 _ 0 _ 47 bq; have fc1 := frozen_of_row w2 _ 1 _ 47 bq; have fc2 := frozen_of_row w2 _ 2 _ 47 bq; have fc3 := frozen_of_row w2 _ 3 _ 47 bq; have R3 := hid (hR2.box (j := 2) bq (by have := HS1.out.1; omega) (.float .f64 b)); have BQ := hid (bq.s2 b); have BP2 := hid (bp.off (q := w1.heap.size) (j := 2) (by have := HS1.out.2; omega) (.float .f64 b)); have T3 := hid ((Touch.trans (T1.out.alloc _) hT2).setCell (p := ⟨w1.heap.size, 2, none⟩) (fun (h : w1.heap.size < w.heap.size) => absurd h (by have := HS1.out.2; omega)) (.float .f64 b)); clear bq bp hR2 hT2; simp at c0 c1 c2 c3)
    | (go_at_call 50; refine (B1.out _ (HR.out.adds (alloc_adds _ _))).mono ?_; rintro e w1 ⟨rfl, hR1, hT1⟩; have R1 := hid hR1; have T1 := hid (Touch.trans ((Touch.refl _ w).alloc _) hT1); have BP := hid ((Box.fresh w M.V0).touch hT1 HNE.out); have HS1 := hid (show r < w1.heap.size ∧ w.heap.size < w1.heap.size from ⟨hR1.lt, by have h := hT1.size; simp at h; omega⟩); clear hR1 hT1))
  refine bodyPost_ret (v := .tuple #[.agg #[.int .i64 3, .int .i64 0, .float .f64 b, .string ⟨#[]⟩], .int .i64 0]) (by simp [results, Try.results34, go_sem, d0, d1, d2, d3]) rfl ⟨rfl, R4.out.store B4.out HNE.out ⟨3, 0, b, []⟩, ?_⟩
  exact ((((A4.out.setCell (fun h => absurd h (by simp)) _).setCell (fun h => absurd h (by simp)) _).setCell (fun h => absurd h (by simp)) _).setCell (fun h => absurd h (by simp)) _)
set_option maxHeartbeats 1000000 in
theorem take4 {t : List UInt8} {r : Nat} {l : List UInt8} {w : World} (hP : M.IsPlain ⟨4, 0, 0, t⟩) (HR : Hid (RD w (.pointer (some ⟨r, 0, none⟩)) ⟨0, UInt8.ofNat 4 :: (M.body ⟨4, 0, 0, t⟩ ++ l)⟩)) :
    Calls Try.prog 34 #[.pointer (some ⟨r, 0, none⟩)] w (PTaken w r (.agg #[.int .i64 4, .int .i64 0, .float .f64 0, .string ⟨t.toArray⟩]) l) := by
  have hs := hst
  have HNE := hid (show r ≠ w.heap.size by have := HR.out.lt; omega)
  have B1 := hid (fun w' (h : RD w' (.pointer (some ⟨r, 0, none⟩)) ⟨0, UInt8.ofNat 4 :: (M.body ⟨4, 0, 0, t⟩ ++ l)⟩) => show Calls Try.prog 50 #[.pointer (some ⟨r, 0, none⟩)] w' (PR w' (.pointer (some ⟨r, 0, none⟩)) (.int .u8 4) ⟨0, M.body ⟨4, 0, 0, t⟩ ++ l⟩) from byte_put h)
  have RT := hid (right_of hP)
  have HP := hid hP
  clear hP
  unfold VV at RT
  go_enter Try.func34, Try.ntmps34
  go_wp2_with (first
    | (go_at_call 28; refine (RT.out _).mono ?_; rintro e w4 ⟨rfl, hA⟩; have bq := BQ.out.adds hA; have bp := BP2.out.adds hA; have c0 := cellOf bq 0; have c1 := cellOf bq 1; have c2 := cellOf bq 2; have c3 := cellOf bq 3; have d0 := cellOf bp 0; have d1 := cellOf bp 1; have d2 := cellOf bp 2; have d3 := cellOf bp 3; have fd0 := frozen_of_row w4 _ 0 _ 47 bp; have fd1 := frozen_of_row w4 _ 1 _ 47 bp; have fd2 := frozen_of_row w4 _ 2 _ 47 bp; have fd3 := frozen_of_row w4 _ 3 _ 47 bp; have B4 := hid bp; have A4 := hid (Touch.trans T3.out (hA.mono fun _ _ h => h.elim)); have R4 := hid (R3.out.adds hA); clear bq bp hA; simp [M.V0] at c0 c1 c2 c3 d0 d1 d2 d3)
    | (go_at_call 33; refine (err_none R3.out).mono ?_; rintro e w' ⟨rfl, hw⟩; obtain rfl := hw.symm)
    | (go_at_call 53; have R1 := R1; refine (text_put (HP.out.fit.len rfl) (R1.out.adds (alloc_adds _ _))).mono ?_; rintro e w2 ⟨rfl, hR2, hT2⟩; have bq := (Box.fresh w1 ⟨4, 0, 0, []⟩).touch hT2 (by have := HS1.out.1; omega); have bp := (BP.out.adds (alloc_adds _ _)).touch hT2 HNE.out; have c0 := cellOf bq 0; have c1 := cellOf bq 1; have c2 := cellOf bq 2; have c3 := cellOf bq 3; have fc0 := frozen_of_row w2 _ 0 _ 47 bq; have fc1 := frozen_of_row w2 _ 1 _ 47 bq; have fc2 := frozen_of_row w2 _ 2 _ 47 bq; have fc3 := frozen_of_row w2 _ 3 _ 47 bq; have R3 := hid (hR2.box (j := 3) bq (by have := HS1.out.1; omega) (.string ⟨t.toArray⟩)); have BQ := hid (bq.s3 t); have BP2 := hid (bp.off (q := w1.heap.size) (j := 3) (by have := HS1.out.2; omega) (.string ⟨t.toArray⟩)); have T3 := hid ((Touch.trans (T1.out.alloc _) hT2).setCell (p := ⟨w1.heap.size, 3, none⟩) (fun (h : w1.heap.size < w.heap.size) => absurd h (by have := HS1.out.2; omega)) (.string ⟨t.toArray⟩)); clear bq bp hR2 hT2; simp at c0 c1 c2 c3)
    | (go_at_call 50; refine (B1.out _ (HR.out.adds (alloc_adds _ _))).mono ?_; rintro e w1 ⟨rfl, hR1, hT1⟩; have R1 := hid hR1; have T1 := hid (Touch.trans ((Touch.refl _ w).alloc _) hT1); have BP := hid ((Box.fresh w M.V0).touch hT1 HNE.out); have HS1 := hid (show r < w1.heap.size ∧ w.heap.size < w1.heap.size from ⟨hR1.lt, by have h := hT1.size; simp at h; omega⟩); clear hR1 hT1))
  refine bodyPost_ret (v := .tuple #[.agg #[.int .i64 4, .int .i64 0, .float .f64 0, .string ⟨t.toArray⟩], .int .i64 0]) (by simp [results, Try.results34, go_sem, d0, d1, d2, d3]) rfl ⟨rfl, R4.out.store B4.out HNE.out ⟨4, 0, 0, t⟩, ?_⟩
  exact ((((A4.out.setCell (fun h => absurd h (by simp)) _).setCell (fun h => absurd h (by simp)) _).setCell (fun h => absurd h (by simp)) _).setCell (fun h => absurd h (by simp)) _)
/-- What is put of a value is taken as its one form. -/
theorem take_put (v : M.V) (hv : v.Ok) {r : Nat} {l : List UInt8} {w : World} (h : RD w (.pointer (some ⟨r, 0, none⟩)) ⟨0, M.put v ++ l⟩) : Calls Try.prog 34 #[.pointer (some ⟨r, 0, none⟩)] w (PTaken w r (VV (M.plain v)) l) := by
  have hp := M.plain_is hv
  have e : M.put v = UInt8.ofNat (M.plain v).k.toNat :: M.body (M.plain v) := rfl
  rw [e, List.cons_append] at h
  generalize M.plain v = p at *
  obtain ⟨k, n, b, t⟩ := p
  have hf := hp.fit
  rcases hf.kind with q | q | q | q | q <;> simp only at q <;> subst q
  · obtain rfl : b = 0 := hp.noughts (by simp)
    obtain rfl : n = 0 := hf.int (by simp)
    obtain rfl : t = [] := hf.text (by simp)
    exact take0 hp h
  · obtain rfl : b = 0 := hp.noughts (by simp)
    obtain rfl : t = [] := hf.text (by simp)
    have hn := hf.bool rfl
    simp only at hn
    rcases hn with rfl | rfl
    · exact take10 hp h
    · exact take11 hp h
  · obtain rfl : b = 0 := hp.noughts (by simp)
    obtain rfl : t = [] := hf.text (by simp)
    exact take2 hp h
  · obtain rfl : n = 0 := hf.int (by simp)
    obtain rfl : t = [] := hf.text (by simp)
    exact take3 hp h
  · obtain rfl : b = 0 := hp.noughts (by simp)
    obtain rfl : n = 0 := hf.int (by simp)
    exact take4 hp h
end Go.Proofs.Ytkkmbpcmkhikkaa
