/- What is put of a value is taken: the walk. -/
import Derived.Test.YtjmldloalieelaaTakeV
namespace Go.Proofs.Ytjmldloalieelaa
open Go.RowKit

/-- What a put makes. -/
def PPut (w : World) (l : List UInt8) (e : Ending) (w' : World) : Prop := ∃ a cap, e = .returned (.slice a l.length cap) ∧ Hid (Lies w' w'.heap.size a l cap ∧ w'.ownsRow w.heap.size 5 1 (.slice a l.length cap) l.length (S l) ∧ Adds w w')
theorem POwn.put {w w' : World} {l : List UInt8} {e : Ending} (h : POwn w l e w') : PPut w l e w' := by
  obtain ⟨v, rfl, h1, h2⟩ := h
  obtain ⟨a, cap, rfl, hL⟩ := Own.lies h1
  exact ⟨a, cap, rfl, hL, h1, h2⟩
theorem own_app {w : World} {base : Nat} {v : Value} {k ls l : List UInt8} (hl : l = k ++ ls) (h : w.ownsRow base 5 1 v (k.length + ls.length) (S k ++ S ls)) : ∃ a cap, v = .slice a l.length cap ∧ Lies w w.heap.size a l cap := by
  subst hl
  refine Own.lies (base := base) ?_
  rw [List.length_append, S, List.map_append]
  exact h
theorem same_plain2 (a : M.V) (ha : a.Ok) : (M.cmp (M.plain a) a == 0) = true := by
  have h := M.cmp_self (M.plain a)
  unfold M.cmp at h ⊢
  rw [M.plain_plain (M.plain_is ha)] at h ⊢
  simpa using h
set_option maxHeartbeats 1000000 in
theorem back_long (v : M.V) (a : Option Addr) (len cap : Nat) (h : 2000 < len) (w : World) : Calls Try.prog 5 #[VV v, .slice a len cap] w (Tells w (.bool true)) := by
  have h' : (2000 : Int) < (len : Int) := by omega
  clear h
  unfold VV
  go_enter Try.func5, Try.ntmps5
  go_wp2_with (first | (go_at_call 14; refine (works_any _).mono ?_; rintro e w1 ⟨rfl, hA⟩; have A1 := hid hA; clear hA))
  go_ret
  exact ⟨rfl, ((Touch.refl _ w).alloc _).trans A1.out⟩
set_option maxRecDepth 100000 in
set_option maxHeartbeats 2000000 in
theorem back_short (v : M.V) (hv : v.Ok) (a : Option Addr) (ls : List UInt8) (cap : Nat) (w : World) (hl : ls.length ≤ 2000) (hcap : a = none → cap = 0) (hA : At w a ls) : Calls Try.prog 5 #[VV v, .slice a ls.length cap] w (Tells w (.bool true)) := by
  obtain ⟨pv, hpv⟩ : ∃ l, M.put v = l := ⟨_, rfl⟩
  obtain ⟨al, hal⟩ : ∃ l, l = pv ++ ls := ⟨_, rfl⟩
  have hpl : pv.length ≤ 75 := by rw [← hpv]; exact M.len_put hv
  have PV := hid (fun w => show Calls Try.prog 16 #[.slice none 0 0, VV v] w (PPut w pv) by rw [← hpv]; exact (put_any v hv w).mono fun _ _ h => h.put)
  have HRD := hid (fun a3 cap3 w3 (h : Lies w3 w3.heap.size a3 al cap3) => read_any a3 al cap3 w3 (by rw [hal, List.length_append]; omega) h.non h.at_)
  have TK := hid (fun (r : Nat) (w : World) (h : RD w (.pointer (some ⟨r, 0, none⟩)) ⟨0, al⟩) => take_put v hv (r := r) (l := ls) (w := w) (by rw [hpv, ← hal]; exact h))
  have HAL := hid hal
  have RX := hid (right_of (M.plain_is hv))
  have RV := hid (right_any v)
  have SX := hid (same_at (M.plain v) v true (same_plain2 v hv))
  have HA := hid (And.intro hA hcap)
  have HL := hid (show pv.length + ls.length ≤ 140737488355328 by omega)
  have hl' : ¬ ((2000 : Int) < (ls.length : Int)) := by omega
  have HK := hid (show M.right v = false → (M.plain v).k = 0 from fun h => by rw [M.plain, if_neg (by rw [h]; simp)]; rfl)
  unfold VV at PV TK RX RV SX ⊢
  clear hA hcap hpv hpl hv hl hal
  have hs := hst
  by_cases hr : M.right v = true
  · rw [hr] at RV
    go_enter Try.func5, Try.ntmps5
    go_wp2_with (first
      | (go_at_call 22; have A7 := A7; refine (RV.out _).mono ?_; rintro e w8 ⟨rfl, hA⟩; have T8 := hid (T7.out.trans hA); have A8 := hid (A7.out.trans hA); have bp := (Box.fresh w v).adds A8.out; have bq := (Box.fresh w5 (M.plain v)).adds T8.out; have c0 := cellOf bp 0; have c1 := cellOf bp 1; have c2 := cellOf bp 2; have c3 := cellOf bp 3; have d0 := cellOf bq 0; have d1 := cellOf bq 1; have d2 := cellOf bq 2; have d3 := cellOf bq 3; clear bp bq; simp at c0 c1 c2 c3 d0 d1 d2 d3; clear hA)
      | (go_at_call 17; refine (SX.out _).mono ?_; rintro e w7 ⟨rfl, hA⟩; have T7 := hid (T6.out.trans hA); have A7 := hid (A6.out.trans hA); have bp := (Box.fresh w v).adds A7.out; have bq := (Box.fresh w5 (M.plain v)).adds T7.out; have c0 := cellOf bp 0; have c1 := cellOf bp 1; have c2 := cellOf bp 2; have c3 := cellOf bp 3; have d0 := cellOf bq 0; have d1 := cellOf bq 1; have d2 := cellOf bq 2; have d3 := cellOf bq 3; clear bp bq; simp at c0 c1 c2 c3 d0 d1 d2 d3; clear hA)
      | (go_at_call 22; refine (RX.out _).mono ?_; rintro e w6 ⟨rfl, hA⟩; have T6 := hid hA; have A6 := hid ((A5.out.alloc _).trans hA); have bp := (Box.fresh w v).adds A6.out; have bq := (Box.fresh w5 (M.plain v)).adds T6.out; have c0 := cellOf bp 0; have c1 := cellOf bp 1; have c2 := cellOf bp 2; have c3 := cellOf bp 3; have d0 := cellOf bq 0; have d1 := cellOf bq 1; have d2 := cellOf bq 2; have d3 := cellOf bq 3; clear bp bq; simp at c0 c1 c2 c3 d0 d1 d2 d3; clear hA)
      | (go_at_call 21; refine (left_any (R5.out.adds (alloc_adds _ _))).mono ?_; rintro e w' ⟨rfl, hw⟩; obtain rfl := hw.symm)
      | (go_at_call 20; refine (TK.out _ _ R4.out).mono ?_; rintro e w5 ⟨rfl, h1, h2⟩; have R5 := hid h1; have A5 := hid (Adds.own A4.out h2 HR.out); clear h1 h2)
      | (go_at_call 19; refine (HRD.out a3 cap3 w3 P3.out).mono ?_; rintro e w4 ⟨r, rfl, h1, h2, h3⟩; have R4 := hid h2; have A4 := hid (A3.out.trans h3); have HR := hid (Nat.le_trans A3.out.size h1); clear h1 h2 h3)
      | (at_builtin; refine append_bytes rfl _ _ rfl w1.heap.size _ pv.length (S pv) rfl P2.out.2.1 a ls cap rfl HA.out.2 (HA.out.1.adds (Touch.trans (alloc_adds _ _) A2.out)) (by have := HL.out; omega) P2.out.2.2.size ?_; intro v3 w3 hown1 hgrow1 hne1; obtain ⟨a3, cap3, rfl, hL3⟩ := own_app HAL.out hown1; have P3 := hid hL3; have A3 := hid (show Adds (w.alloc (.cells #[.int .i64 v.k, .int .i64 v.n, .float .f64 v.b, .string ⟨v.t.toArray⟩] 24)) w3 from A1.out.trans (Touch.grown P2.out.2.2 hgrow1 (fun j hj hlt => by have := (P2.out.2.1.lt j hj).1; omega))); clear hown1 hgrow1 hne1 hL3)
      | (go_at_call 16; refine (PV.out _).mono ?_; rintro e w2 ⟨a2, cap2, rfl, P2⟩; have A2 := hid (A1.out.trans P2.out.2.2))
      | (go_at_call 14; refine (works_any _).mono ?_; rintro e w1 ⟨rfl, hA⟩; have A1 := hid hA; have bp := (Box.fresh w v).adds hA; have c0 := cellOf bp 0; have c1 := cellOf bp 1; have c2 := cellOf bp 2; have c3 := cellOf bp 3; clear bp hA; simp at c0 c1 c2 c3))
    go_ret
    exact ⟨rfl, ((Touch.refl _ w).alloc _).trans A8.out⟩
  · have hr' := Bool.eq_false_iff.2 hr
    rw [hr'] at RV
    have HK0 := hid (HK.out hr')
    clear hr hr'
    go_enter Try.func5, Try.ntmps5
    go_wp2_with (first
      | (go_at_call 22; have A7 := A7; refine (RV.out _).mono ?_; rintro e w8 ⟨rfl, hA⟩; have T8 := hid (T7.out.trans hA); have A8 := hid (A7.out.trans hA); have bp := (Box.fresh w v).adds A8.out; have bq := (Box.fresh w5 (M.plain v)).adds T8.out; have c0 := cellOf bp 0; have c1 := cellOf bp 1; have c2 := cellOf bp 2; have c3 := cellOf bp 3; have d0 := cellOf bq 0; have d1 := cellOf bq 1; have d2 := cellOf bq 2; have d3 := cellOf bq 3; clear bp bq; simp at c0 c1 c2 c3 d0 d1 d2 d3; clear hA)
      | (go_at_call 17; refine (SX.out _).mono ?_; rintro e w7 ⟨rfl, hA⟩; have T7 := hid (T6.out.trans hA); have A7 := hid (A6.out.trans hA); have bp := (Box.fresh w v).adds A7.out; have bq := (Box.fresh w5 (M.plain v)).adds T7.out; have c0 := cellOf bp 0; have c1 := cellOf bp 1; have c2 := cellOf bp 2; have c3 := cellOf bp 3; have d0 := cellOf bq 0; have d1 := cellOf bq 1; have d2 := cellOf bq 2; have d3 := cellOf bq 3; clear bp bq; simp at c0 c1 c2 c3 d0 d1 d2 d3; clear hA)
      | (go_at_call 22; refine (RX.out _).mono ?_; rintro e w6 ⟨rfl, hA⟩; have T6 := hid hA; have A6 := hid ((A5.out.alloc _).trans hA); have bp := (Box.fresh w v).adds A6.out; have bq := (Box.fresh w5 (M.plain v)).adds T6.out; have c0 := cellOf bp 0; have c1 := cellOf bp 1; have c2 := cellOf bp 2; have c3 := cellOf bp 3; have d0 := cellOf bq 0; have d1 := cellOf bq 1; have d2 := cellOf bq 2; have d3 := cellOf bq 3; clear bp bq; simp at c0 c1 c2 c3 d0 d1 d2 d3; clear hA)
      | (go_at_call 21; refine (left_any (R5.out.adds (alloc_adds _ _))).mono ?_; rintro e w' ⟨rfl, hw⟩; obtain rfl := hw.symm)
      | (go_at_call 20; refine (TK.out _ _ R4.out).mono ?_; rintro e w5 ⟨rfl, h1, h2⟩; have R5 := hid h1; have A5 := hid (Adds.own A4.out h2 HR.out); clear h1 h2)
      | (go_at_call 19; refine (HRD.out a3 cap3 w3 P3.out).mono ?_; rintro e w4 ⟨r, rfl, h1, h2, h3⟩; have R4 := hid h2; have A4 := hid (A3.out.trans h3); have HR := hid (Nat.le_trans A3.out.size h1); clear h1 h2 h3)
      | (at_builtin; refine append_bytes rfl _ _ rfl w1.heap.size _ pv.length (S pv) rfl P2.out.2.1 a ls cap rfl HA.out.2 (HA.out.1.adds (Touch.trans (alloc_adds _ _) A2.out)) (by have := HL.out; omega) P2.out.2.2.size ?_; intro v3 w3 hown1 hgrow1 hne1; obtain ⟨a3, cap3, rfl, hL3⟩ := own_app HAL.out hown1; have P3 := hid hL3; have A3 := hid (show Adds (w.alloc (.cells #[.int .i64 v.k, .int .i64 v.n, .float .f64 v.b, .string ⟨v.t.toArray⟩] 24)) w3 from A1.out.trans (Touch.grown P2.out.2.2 hgrow1 (fun j hj hlt => by have := (P2.out.2.1.lt j hj).1; omega))); clear hown1 hgrow1 hne1 hL3)
      | (go_at_call 16; refine (PV.out _).mono ?_; rintro e w2 ⟨a2, cap2, rfl, P2⟩; have A2 := hid (A1.out.trans P2.out.2.2))
      | (go_at_call 14; refine (works_any _).mono ?_; rintro e w1 ⟨rfl, hA⟩; have A1 := hid hA; have bp := (Box.fresh w v).adds hA; have c0 := cellOf bp 0; have c1 := cellOf bp 1; have c2 := cellOf bp 2; have c3 := cellOf bp 3; clear bp hA; simp at c0 c1 c2 c3))
    go_ret
    refine ⟨?_, ((Touch.refl _ w).alloc _).trans A8.out⟩
    show Ending.returned (.bool ((M.plain v).k == 0)) = _
    rw [HK0.out]
    rfl
end Go.Proofs.Ytjmldloalieelaa
