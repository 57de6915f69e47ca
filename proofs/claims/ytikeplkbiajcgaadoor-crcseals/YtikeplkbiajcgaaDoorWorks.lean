/- works: the chapter's examples. -/
import Derived.Test.YtikeplkbiajcgaaDoorSeal
import Derived.Deep.RegionHeld3
import Derived.Lib.SlBytesConst
namespace Go.Proofs.YtikeplkbiajcgaaDoor
open Go.RowKit

def digits : List UInt8 := [49, 50, 51, 52, 53, 54, 55, 56, 57]
theorem sum_digits : M.sum digits = 3421780262#32 := by decide +kernel
theorem sum_none : M.sum [] = 0#32 := by decide +kernel
theorem join_digits : M.join (M.sum [49, 50, 51, 52]) (M.sum [53, 54, 55, 56, 57]) 5 = 3421780262#32 := by decide +kernel
theorem sealed_none : sealed [] = [0, 0, 0, 0] := by decide +kernel

/-- The row of the nine digits. -/
def Dig : Array Value := #[.int .u8 49, .int .u8 50, .int .u8 51, .int .u8 52, .int .u8 53, .int .u8 54, .int .u8 55, .int .u8 56, .int .u8 57]
theorem At.digits (w : World) : At (w.alloc (.cells Dig 5 (9, 10))) (some ⟨w.heap.size, 0, none⟩) digits := by
  intro j c hj
  refine ⟨_, _, rfl, ?_⟩
  rw [cell_of_row _ _ _ _ _ _ (heap_alloc_new w _)]
  match j, hj with
  | 0, hj => obtain rfl : _ = c := Option.some.inj hj; rfl
  | 1, hj => obtain rfl : _ = c := Option.some.inj hj; rfl
  | 2, hj => obtain rfl : _ = c := Option.some.inj hj; rfl
  | 3, hj => obtain rfl : _ = c := Option.some.inj hj; rfl
  | 4, hj => obtain rfl : _ = c := Option.some.inj hj; rfl
  | 5, hj => obtain rfl : _ = c := Option.some.inj hj; rfl
  | 6, hj => obtain rfl : _ = c := Option.some.inj hj; rfl
  | 7, hj => obtain rfl : _ = c := Option.some.inj hj; rfl
  | 8, hj => obtain rfl : _ = c := Option.some.inj hj; rfl
  | j + 9, hj => simp [Go.Proofs.YtikeplkbiajcgaaDoor.digits] at hj

/-- What the examples tell, in whatever world behind the row. -/
theorem four_sums (w : World) (hT : Tab w) : ∃ s4 s5 : M.V, (∀ w2, Calls Tryd.prog 14 #[.int .u32 (N s4), .int .u32 (N s5), .int .i64 5] w2 (Adding (.int .u32 3421780262) w2)) ∧
    ∀ w1, Adds (w.alloc (.cells Dig 5 (9, 10))) w1 → Calls Tryd.prog 9 #[.slice (some ⟨w.heap.size, 0, none⟩) 9 9] w1 (Tells (.int .u32 3421780262) w1) ∧ Calls Tryd.prog 9 #[.slice none 0 0] w1 (Tells (.int .u32 0) w1) ∧
      Calls Tryd.prog 9 #[.slice (some ⟨w.heap.size, 0, none⟩) 4 9] w1 (Tells (.int .u32 (N s4)) w1) ∧ Calls Tryd.prog 9 #[.slice (some ⟨w.heap.size, 4, none⟩) 5 5] w1 (Tells (.int .u32 (N s5)) w1) := by
  have hA := At.digits w
  refine ⟨M.sum [49, 50, 51, 52], M.sum [53, 54, 55, 56, 57], ?_, ?_⟩
  · intro w2
    have := join_any (M.sum [49, 50, 51, 52]) (M.sum [53, 54, 55, 56, 57]) 5 (by decide) w2
    rw [show (5 : Int).toNat = 5 from rfl, join_digits] at this
    exact this
  · intro w1 h1
    have hT1 : Tab w1 := hT.adds (((Touch.refl _ w).alloc _).trans h1)
    refine ⟨?_, ?_, ?_, ?_⟩
    · have := sum_any _ _ 9 w1 (by decide) hT1 (hA.adds h1)
      rw [sum_digits] at this
      exact this
    · have := sum_any none [] 0 w1 (by decide) hT1 (At.nil w1 _)
      rw [sum_none] at this
      exact this
    · exact sum_any _ [49, 50, 51, 52] 9 w1 (by decide) hT1 ((hA.pre 4).adds h1)
    · exact sum_any _ [53, 54, 55, 56, 57] 5 w1 (by decide) hT1 ((hA.suf 4).adds h1)

/-- Which slice has which sum. -/
def Sums (g : Nat) (s4 s5 : M.V) (x z : Value) : Prop :=
  (x = .slice (some ⟨g, 0, none⟩) 9 9 ∧ z = .int .u32 3421780262) ∨ (x = .slice none 0 0 ∧ z = .int .u32 0) ∨ (x = .slice (some ⟨g, 0, none⟩) 4 9 ∧ z = .int .u32 (N s4)) ∨ (x = .slice (some ⟨g, 4, none⟩) 5 5 ∧ z = .int .u32 (N s5))
theorem Sums.all {g : Nat} {s4 s5 : M.V} : Sums g s4 s5 (.slice (some ⟨g, 0, none⟩) 9 9) (.int .u32 3421780262) := .inl ⟨rfl, rfl⟩
theorem Sums.no {g : Nat} {s4 s5 : M.V} : Sums g s4 s5 (.slice none 0 0) (.int .u32 0) := .inr (.inl ⟨rfl, rfl⟩)
theorem Sums.first {g : Nat} {s4 s5 : M.V} : Sums g s4 s5 (.slice (some ⟨g, 0, none⟩) 4 9) (.int .u32 (N s4)) := .inr (.inr (.inl ⟨rfl, rfl⟩))
theorem Sums.last {g : Nat} {s4 s5 : M.V} : Sums g s4 s5 (.slice (some ⟨g, 4, none⟩) 5 5) (.int .u32 (N s5)) := .inr (.inr (.inr ⟨rfl, rfl⟩))

set_option maxRecDepth 100000 in
set_option maxHeartbeats 4000000 in
theorem works_any (w : World) (hT : Tab w) : Calls Tryd.prog 11 #[] w (Adding (.bool true) w) := by
  obtain ⟨s4, s5, hj, hs⟩ := four_sums w hT
  have HJ := hid hj
  have HS := hid (show ∀ w1, Adds (w.alloc (.cells Dig 5 (9, 10))) w1 → ∀ v r, Sums w.heap.size s4 s5 v r → Calls Tryd.prog 9 #[v] w1 (Tells r w1) from fun w1 h1 v r hv => by
    rcases hv with ⟨rfl, rfl⟩ | ⟨rfl, rfl⟩ | ⟨rfl, rfl⟩ | ⟨rfl, rfl⟩
    · exact (hs w1 h1).1
    · exact (hs w1 h1).2.1
    · exact (hs w1 h1).2.2.1
    · exact (hs w1 h1).2.2.2)
  have HSE := hid (show Calls Tryd.prog 16 #[.slice none 0 0] (w.alloc (.cells Dig 5 (9, 10))) (PSeal (w.alloc (.cells Dig 5 (9, 10))) []) from seal_any none [] 0 _ (by decide) (fun _ => rfl) (hT.adds ((Touch.refl _ w).alloc _)) (At.nil _ _))
  have kc := Lib.run_convert_bytes_const (P := Tryd.prog) w 22 5 Dig 9 9 Tryd.underlying22 Tryd.underlying5
  have hsz : Dig.size = 9 := rfl
  rw [hsz] at kc
  unfold Dig at kc
  clear hT hj hs hsz
  go_enter Tryd.func11, Tryd.ntmps11
  go_wp2_with (go_at_call 16; refine HSE.out.mono ?_; rintro e w2 ⟨g, cap, rfl, hg, hown, hA2⟩; have H2 := hid (And.intro hg (And.intro hown hA2)); clear hg hown hA2 kc)
  have HG := hid (show ∀ w', Adds w2 w' → w'.cell? ⟨g, 0, none⟩ = some (.int .u8 0) from fun w' h => by
    have hat := At.own H2.out.2.1
    rw [sealed_none] at hat
    obtain ⟨b, o, e, hc⟩ := (hat.adds h) 0 0 rfl
    obtain ⟨rfl, rfl⟩ : g = b ∧ 0 = o := by simpa using e
    exact hc)
  have HD := hid (show Adds w2 w2.drew from (Touch.refl _ w2).drew)
  have HA2 := hid (show Adds (w.alloc (.cells Dig 5 (9, 10))) w2.drew from H2.out.2.2.drew)
  go_region_held3 (fun w' => w'.cell? ⟨g, 0, none⟩ = some (.int .u8 0)) (first | exact HG.out _ HD.out | exact HG.out _ (HD.out.trans hA3)) (first
    | (go_at_call 9; refine (HS.out _ HA2.out _ _ (by first | exact .all | exact .no | exact .first | exact .last)).mono ?_; rintro e _ ⟨rfl, hw⟩; rw [hw]; clear hw)
    | (go_at_call 14; refine (HJ.out _).mono ?_; rintro e w3 ⟨rfl, hA3⟩))
  go_wp2
  go_ret
  exact ⟨rfl, (((Touch.refl _ w).alloc _).trans HA2.out).trans hA3⟩
end Go.Proofs.YtikeplkbiajcgaaDoor
