/- What is put behind the kind. -/
import Derived.Test.YtkkmbpcmkhikkaaCmpV
import Derived.Test.YtkkmbpcmkhikkaaPut3
namespace Go.Proofs.Ytkkmbpcmkhikkaa
open Go.RowKit

theorem own_up {w w0 w' : World} {bs : List UInt8} {e : Ending} (hA : Adds w w0) (h : POwn w0 bs e w') : POwn w bs e w' := by
  obtain ⟨v, rfl, h1, h2⟩ := h
  exact ⟨v, rfl, own_base h1 hA.size, hA.trans h2⟩
theorem own_one (w : World) (c : UInt8) : (w.alloc (.cells #[.int .u8 (c.toNat : Int)] 5)).ownsRow w.heap.size 5 1 (.slice (some ⟨w.heap.size, 0, none⟩) 1 1) [c].length (S [c]) :=
  World.ownsRow_lit (base := w.heap.size) (e := 5) (size := 1) w #[.int .u8 (c.toNat : Int)] 1 (Nat.le_refl _) (by decide) rfl
set_option maxHeartbeats 1000000 in
theorem body_any (p : M.V) (hp : M.IsPlain p) (w : World) : Calls Try.prog 48 #[VV p] w (POwn w (M.body p)) := by
  obtain ⟨k, n, b, t⟩ := p
  have hf := hp.fit
  have ho := hp.ok
  unfold VV
  rcases hf.kind with e | e | e | e | e <;> simp only at e <;> subst e
  · rw [show M.body ⟨0, n, b, t⟩ = [] from rfl]
    clear hp hf ho
    go_enter Try.func48, Try.ntmps48
    go_wp2
    go_ret
    exact ⟨_, rfl, World.ownsRow_nil _ _ _ _, (Touch.refl _ w).alloc _⟩
  · rw [show M.body ⟨1, n, b, t⟩ = [UInt8.ofNat n.toNat] from rfl]
    have hn := hf.bool rfl
    simp only at hn
    clear hp hf ho
    rcases hn with rfl | rfl
    · go_enter Try.func48, Try.ntmps48
      go_wp2
      go_ret
      refine own_up (w0 := w.alloc (.cells #[.int .i64 1, .int .i64 0, .float .f64 b, .string ⟨t.toArray⟩] 47)) ((Touch.refl _ w).alloc _) ⟨.slice (some ⟨w.heap.size + 1, 0, none⟩) 1 1, rfl, ?_, (Touch.refl _ _).alloc _⟩
      have h := own_one (w.alloc (.cells #[.int .i64 1, .int .i64 0, .float .f64 b, .string ⟨t.toArray⟩] 47)) 0
      simp only [World.size_alloc] at h ⊢
      exact h
    · go_enter Try.func48, Try.ntmps48
      go_wp2
      go_ret
      refine own_up (w0 := w.alloc (.cells #[.int .i64 1, .int .i64 1, .float .f64 b, .string ⟨t.toArray⟩] 47)) ((Touch.refl _ w).alloc _) ⟨.slice (some ⟨w.heap.size + 1, 0, none⟩) 1 1, rfl, ?_, (Touch.refl _ _).alloc _⟩
      have h := own_one (w.alloc (.cells #[.int .i64 1, .int .i64 1, .float .f64 b, .string ⟨t.toArray⟩] 47)) 1
      simp only [World.size_alloc] at h ⊢
      exact h
  · rw [show M.body ⟨2, n, b, t⟩ = M.enc (M.zig n) from rfl]
    have H := hid (fun w => putInt_any none [] 0 n w (by simp) ho.n.1 ho.n.2 (fun _ => rfl) (At.nil _ _))
    clear hp hf ho
    go_enter Try.func48, Try.ntmps48
    go_wp2_with (first | (go_at_call 64; refine (H.out _).mono ?_; rintro e w1 ⟨v1, rfl, h1, h2⟩; have HQ := hid (And.intro h1 h2); clear h1 h2))
    go_ret
    exact own_up ((Touch.refl _ w).alloc _) ⟨_, rfl, HQ.out.1, HQ.out.2⟩
  · rw [show M.body ⟨3, n, b, t⟩ = M.fix (M.canon b) 8 from rfl]
    have H := hid (fun w => putFloat_any none [] 0 b w (by simp) (fun _ => rfl) (At.nil _ _))
    clear hp hf ho
    go_enter Try.func48, Try.ntmps48
    go_wp2_with (first | (go_at_call 65; refine (H.out _).mono ?_; rintro e w1 ⟨v1, rfl, h1, h2⟩; have HQ := hid (And.intro h1 h2); clear h1 h2))
    go_ret
    exact own_up ((Touch.refl _ w).alloc _) ⟨_, rfl, HQ.out.1, HQ.out.2⟩
  · rw [show M.body ⟨4, n, b, t⟩ = M.enc t.length ++ t from rfl]
    have hl := hf.len rfl
    have H := hid (fun w => putText_any none [] 0 t w (by simp) (by simp only at hl; omega) (fun _ => rfl) (At.nil _ _))
    clear hp hf ho hl
    go_enter Try.func48, Try.ntmps48
    go_wp2_with (first | (go_at_call 66; refine (H.out _).mono ?_; rintro e w1 ⟨v1, rfl, h1, h2⟩; have HQ := hid (And.intro h1 h2); clear h1 h2))
    go_ret
    exact own_up ((Touch.refl _ w).alloc _) ⟨_, rfl, HQ.out.1, HQ.out.2⟩
end Go.Proofs.Ytkkmbpcmkhikkaa
