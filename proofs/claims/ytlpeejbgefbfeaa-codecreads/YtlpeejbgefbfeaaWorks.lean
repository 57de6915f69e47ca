/- works: the chapter's examples. -/
import Derived.Test.YtlpeejbgefbfeaaKeep
namespace Go.Proofs.Ytlpeejbgefbfeaa
open Go.RowKit

/-- A pointer to block p. -/
abbrev Ptr (p : Nat) : Value := .pointer (some ⟨p, 0, none⟩)
/-- An answer; nothing that was there has turned. -/
def Adding (v : Value) (w : World) (e : Ending) (w' : World) : Prop := e = .returned v ∧ Adds w w'
theorem enc300 : M.enc 300 = [172, 2] := by rw [M.enc_big (by decide), M.enc_small (by decide)]; rfl
theorem enc5 : M.enc (M.zig (-3)) = [5] := by rw [show M.zig (-3) = 5 from rfl, M.enc_small (by decide)]; rfl
theorem At.pair (w : World) (c d : UInt8) : At (w.alloc (.cells #[.int .u8 (c.toNat : Int), .int .u8 (d.toNat : Int)] 5)) (some ⟨w.heap.size, 0, none⟩) [c, d] := by
  intro j x hj
  refine ⟨_, _, rfl, ?_⟩
  rw [cell_of_row _ _ _ _ _ _ (heap_alloc_new w _)]
  match j, hj with
  | 0, hj => obtain rfl : c = x := Option.some.inj hj; rfl
  | 1, hj => obtain rfl : d = x := Option.some.inj hj; rfl
  | j + 2, hj => simp at hj

theorem put300 (w : World) : Calls Try.prog 9 #[.slice none 0 0, .int .u64 300] w (POwn w [172, 2]) := by
  have h := putUint_any none [] 0 300 w (by decide) (by decide) (fun _ => rfl) (At.nil _ _)
  rw [enc300] at h; exact h
theorem put_3 (w : World) : Calls Try.prog 11 #[.slice none 0 0, .int .i64 (-3)] w (POwn w [5]) := by
  have h := putInt_any none [] 0 (-3) w (by decide) (by decide) (by decide) (fun _ => rfl) (At.nil _ _)
  rw [enc5] at h; exact h
theorem ex1 (p : Nat) (w : World) (h : RD w (Ptr p) ⟨0, [172, 2]⟩) : Calls Try.prog 21 #[Ptr p, .int .u64 1000] w (PR w (Ptr p) (.int .u64 300) ⟨0, []⟩) := by
  have h := uint_any 1000 h
  rw [show M.uintR 1000 ⟨0, [172, 2]⟩ = (300, ⟨0, []⟩) from rfl] at h; exact h
theorem ex2 (p : Nat) (w : World) (h : RD w (Ptr p) ⟨0, [128, 0]⟩) : Calls Try.prog 21 #[Ptr p, .int .u64 9] w (PR w (Ptr p) (.int .u64 0) ⟨22, []⟩) := by
  have h := uint_any 9 h
  rw [show M.uintR 9 ⟨0, [128, 0]⟩ = (0, ⟨22, []⟩) from rfl] at h; exact h
theorem ex3 (p : Nat) (w : World) (h : RD w (Ptr p) ⟨0, [128]⟩) : Calls Try.prog 23 #[Ptr p] w (PR w (Ptr p) (.int .i64 0) ⟨21, []⟩) := by
  have h := int_any h
  rw [show M.intR ⟨0, [128]⟩ = (0, ⟨21, []⟩) from rfl] at h; exact h

theorem exE (p : Nat) (w : World) (h : RD w (Ptr p) ⟨0, []⟩) : Calls Try.prog 35 #[Ptr p] w fun e w' => e = .returned (.int .i64 0) ∧ w' = w := end_any h
theorem exF (p n : Nat) (w : World) (h : RD w (Ptr p) ⟨n, []⟩) : Calls Try.prog 34 #[Ptr p] w fun e w' => e = .returned (.int .i64 (n : Int)) ∧ w' = w := err_any h
/-- Three readers. -/
structure Three (w w' : World) (p q t : Nat) (s1 s2 s3 : M.St) : Prop where
  one : RD w' (Ptr p) s1
  two : RD w' (Ptr q) s2
  three : RD w' (Ptr t) s3
  low : w.heap.size ≤ p
  lt1 : p < q
  lt2 : q < t
  adds : Adds w w'
theorem Three.turn1 {w w1 w2 : World} {p q t : Nat} {s1 s2 s3 u : M.St} (h : Three w w1 p q t s1 s2 s3) (hR : RD w2 (Ptr p) u) (hT : Touch (Own1 (Ptr p)) w1 w2) : Three w w2 p q t u s2 s3 :=
  ⟨hR, h.two.other h.one hT (by have := h.lt1; omega), h.three.other h.one hT (by have := h.lt1; have := h.lt2; omega), h.low, h.lt1, h.lt2, Adds.own h.adds hT h.low⟩
theorem Three.turn2 {w w1 w2 : World} {p q t : Nat} {s1 s2 s3 u : M.St} (h : Three w w1 p q t s1 s2 s3) (hR : RD w2 (Ptr q) u) (hT : Touch (Own1 (Ptr q)) w1 w2) : Three w w2 p q t s1 u s3 :=
  ⟨h.one.other h.two hT (by have := h.lt1; omega), hR, h.three.other h.two hT (by have := h.lt2; omega), h.low, h.lt1, h.lt2, Adds.own h.adds hT (by have := h.low; have := h.lt1; omega)⟩
theorem Three.turn3 {w w1 w2 : World} {p q t : Nat} {s1 s2 s3 u : M.St} (h : Three w w1 p q t s1 s2 s3) (hR : RD w2 (Ptr t) u) (hT : Touch (Own1 (Ptr t)) w1 w2) : Three w w2 p q t s1 s2 u :=
  ⟨h.one.other h.three hT (by have := h.lt1; have := h.lt2; omega), h.two.other h.three hT (by have := h.lt2; omega), hR, h.low, h.lt1, h.lt2, Adds.own h.adds hT (by have := h.low; have := h.lt1; have := h.lt2; omega)⟩
/-- Three readers are made, one behind the other. -/
theorem Three.make {w w1 w2 w3 w2' w3' : World} {p q t : Nat} {s1 s2 s3 : M.St} (h0 : Adds w w1) (h1 : RD w2 (Ptr p) s1) (l1 : w1.heap.size ≤ p) (a1 : Adds w1 w2) (b2 : Adds w2 w2') (h2 : RD w3 (Ptr q) s2) (l2 : w2'.heap.size ≤ q) (a2 : Adds w2' w3) (b3 : Adds w3 w3') {w4 : World} (h3 : RD w4 (Ptr t) s3) (l3 : w3'.heap.size ≤ t) (a3 : Adds w3' w4) : Three w w4 p q t s1 s2 s3 := by
  refine ⟨h1.adds (b2.trans (a2.trans (b3.trans a3))), h2.adds (b3.trans a3), h3, ?_, ?_, ?_, h0.trans (a1.trans (b2.trans (a2.trans (b3.trans a3))))⟩
  · have := h0.size; omega
  · have := h1.lt; have := b2.size; omega
  · have := h2.lt; have := b3.size; omega

set_option maxRecDepth 100000 in
set_option maxHeartbeats 400000 in
theorem works_any (w : World) : Calls Try.prog 19 #[] w (Adding (.bool true) w) := by
  go_enter Try.func19, Try.ntmps19
  go_wp2_with (first
    | (go_at_call 9; refine (put300 w).mono ?_; rintro e w1 ⟨v1, rfl, h1, h2⟩; obtain ⟨a1, cap1, rfl, hL1⟩ := Own.lies h1; have Q1 := hid (And.intro hL1 h2); clear h1 h2 hL1)
    | (go_at_call 11; refine (put_3 w1).mono ?_; rintro e w2 ⟨v2, rfl, h1, h2⟩; obtain ⟨a2, cap2, rfl, hL1⟩ := Own.lies h1; have Q2 := hid (And.intro hL1 h2); clear h1 h2 hL1)
    | (go_at_call 20; refine (read_any (some ⟨w4.heap.size, 0, none⟩) [128] 1 (w4.alloc (.cells #[.int .u8 128] 5)) (by decide) (fun e => by cases e) (At.one w4 128)).mono ?_; rintro e w5 ⟨t, rfl, h1, h2, h3⟩;
        have T5 := hid (Three.make (Q1.out.2.trans Q2.out.2) Q3.out.2.1 Q3.out.1 Q3.out.2.2 ((Touch.refl _ w3).alloc (.cells #[.int .u8 128, .int .u8 0] 5)) Q4.out.2.1 Q4.out.1 Q4.out.2.2 ((Touch.refl _ w4).alloc (.cells #[.int .u8 128] 5)) h2 h1 h3);
        have hA := hid (Q3.out.2.2.trans (((Touch.refl _ w3).alloc (.cells #[.int .u8 128, .int .u8 0] 5)).trans (Q4.out.2.2.trans (((Touch.refl _ w4).alloc (.cells #[.int .u8 128] 5)).trans h3)))); clear h1 h2 h3;
        have hcv1 : (convert 22 9 (.slice a1 2 cap1)).run Try.prog w5 = .ok (.string ⟨#[172, 2]⟩) w5 := conv_at w5 a1 [172, 2] cap1 ((Q1.out.1.at_.adds Q2.out.2).adds hA.out); have hcv2 : (convert 22 9 (.slice a2 1 cap2)).run Try.prog w5 = .ok (.string ⟨#[5]⟩) w5 := conv_at w5 a2 [5] cap2 (Q2.out.1.at_.adds hA.out))
    | (go_at_call 20; refine (read_any (some ⟨w3.heap.size, 0, none⟩) [128, 0] 2 (w3.alloc (.cells #[.int .u8 128, .int .u8 0] 5)) (by decide) (fun e => by cases e) (At.pair w3 128 0)).mono ?_; rintro e w4 ⟨q, rfl, h1, h2, h3⟩; have Q4 := hid (And.intro h1 (And.intro h2 h3)); clear h1 h2 h3)
    | (go_at_call 20; refine (read_any a1 [172, 2] cap1 w2 (by decide) Q1.out.1.non (Q1.out.1.at_.adds Q2.out.2)).mono ?_; rintro e w3 ⟨p, rfl, h1, h2, h3⟩; have Q3 := hid (And.intro h1 (And.intro h2 h3)); clear h1 h2 h3)
    | (go_at_call 34; refine (exF t 21 w8 T8.out.three).mono ?_; rintro e w' ⟨rfl, hw⟩; obtain rfl := hw.symm)
    | (go_at_call 23; refine (ex3 t w7 T7.out.three).mono ?_; rintro e w8 ⟨rfl, h1, h2⟩; have T8 := hid (T7.out.turn3 h1 h2); clear h1 h2)
    | (go_at_call 34; refine (exF q 22 w7 T7.out.two).mono ?_; rintro e w' ⟨rfl, hw⟩; obtain rfl := hw.symm)
    | (go_at_call 21; refine (ex2 q w6 T6.out.two).mono ?_; rintro e w7 ⟨rfl, h1, h2⟩; have T7 := hid (T6.out.turn2 h1 h2); clear h1 h2)
    | (go_at_call 35; refine (exE p w6 T6.out.one).mono ?_; rintro e w' ⟨rfl, hw⟩; obtain rfl := hw.symm)
    | (go_at_call 21; refine (ex1 p w5 T5.out.one).mono ?_; rintro e w6 ⟨rfl, h1, h2⟩; have T6 := hid (T5.out.turn1 h1 h2); clear h1 h2))
  go_ret
  exact ⟨rfl, T8.out.adds⟩
end Go.Proofs.Ytlpeejbgefbfeaa
