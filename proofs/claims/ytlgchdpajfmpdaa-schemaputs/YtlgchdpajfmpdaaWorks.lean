/- The chapter's examples. -/
import Derived.Test.YtlgchdpajfmpdaaSame
namespace Go.Proofs.Ytlgchdpajfmpdaa
open Go.RowKit

/-- Two columns in a block. -/
theorem two_cols {w : World} {g t : Nat} {fr : Nat × Nat} {c d : M.Col} (h : w.heap[g]? = some (.cells #[.string ⟨c.1.toArray⟩, .int .i64 c.2, .string ⟨d.1.toArray⟩, .int .i64 d.2] t fr)) : ColAt w (some ⟨g, 0, none⟩) [c, d] := by
  intro j x hx
  have c0 := cellOf h 0
  have c1 := cellOf h 1
  have c2 := cellOf h 2
  have c3 := cellOf h 3
  simp at c0 c1 c2 c3
  match j, hx with
  | 0, hx =>
    obtain rfl : c = x := by simpa using hx
    exact ⟨g, 0, rfl, c0, c1⟩
  | 1, hx =>
    obtain rfl : d = x := by simpa using hx
    exact ⟨g, 0, rfl, c2, c3⟩
  | j + 2, hx => simp at hx
theorem right_two {w : World} {g t : Nat} {fr : Nat × Nat} (c d : M.Col) (z : Nat) (hz : M.right [116] [c, d] = z) (h : w.heap[g]? = some (.cells #[.string ⟨c.1.toArray⟩, .int .i64 c.2, .string ⟨d.1.toArray⟩, .int .i64 d.2] t fr)) : Calls Try.prog 10 #[.agg #[.string ⟨#[116]⟩, .slice (some ⟨g, 0, none⟩) 2 2]] w (Tells w (.int .i64 (z : Int))) := by
  have := right_any [116] (some ⟨g, 0, none⟩) 2 [c, d] w (two_cols h) (by simp)
  rw [hz] at this
  exact this
theorem right_none (w : World) : Calls Try.prog 10 #[.agg #[.string ⟨#[116]⟩, .slice none 0 0]] w (Tells w (.int .i64 2)) := by
  have := right_any [116] none 0 [] w (ColAt.nil _ _) (by simp)
  rw [show M.right [116] [] = 2 by decide] at this
  exact this
set_option maxRecDepth 100000 in
set_option maxHeartbeats 1000000 in
theorem works_any (w : World) : Calls Try.prog 16 #[] w (Tells w (.bool true)) := by
  have A0 := hid (show Adds w (((w.alloc (.cells #[.string ⟨#[97]⟩, .int .i64 2] 51)).alloc (.cells #[.string ⟨#[98]⟩, .int .i64 4] 51)).alloc (.cells #[.string ⟨#[97]⟩, .int .i64 2, .string ⟨#[98]⟩, .int .i64 4] 51)) from ((((Touch.refl _ w).alloc _)).alloc _).alloc _)
  have R0 := hid (show Calls Try.prog 10 #[.agg #[.string ⟨#[116]⟩, .slice (some ⟨w.heap.size + 1 + 1, 0, none⟩) 2 2]] (((w.alloc (.cells #[.string ⟨#[97]⟩, .int .i64 2] 51)).alloc (.cells #[.string ⟨#[98]⟩, .int .i64 4] 51)).alloc (.cells #[.string ⟨#[97]⟩, .int .i64 2, .string ⟨#[98]⟩, .int .i64 4] 51)) (Tells _ (.int .i64 0)) from
    right_two (t := 51) (fr := (0, 0)) ([97], 2) ([98], 4) 0 (by decide) (by
      have := heap_alloc_new ((w.alloc (.cells #[.string ⟨#[97]⟩, .int .i64 2] 51)).alloc (.cells #[.string ⟨#[98]⟩, .int .i64 4] 51)) (.cells #[.string ⟨#[97]⟩, .int .i64 2, .string ⟨#[98]⟩, .int .i64 4] 51)
      simpa using this))
  have R1 := hid (fun w1 : World => show Calls Try.prog 10 #[.agg #[.string ⟨#[116]⟩, .slice (some ⟨w1.heap.size, 0, none⟩) 2 2]] (w1.alloc (.cells #[.string ⟨#[97]⟩, .int .i64 2, .string ⟨#[97]⟩, .int .i64 2] 51)) (Tells _ (.int .i64 41)) from
    right_two (t := 51) (fr := (0, 0)) ([97], 2) ([97], 2) 41 (by decide) (heap_alloc_new w1 _))
  have HB := hid (fun w' (hA : Adds (((w.alloc (.cells #[.string ⟨#[97]⟩, .int .i64 2] 51)).alloc (.cells #[.string ⟨#[98]⟩, .int .i64 4] 51)).alloc (.cells #[.string ⟨#[97]⟩, .int .i64 2, .string ⟨#[98]⟩, .int .i64 4] 51)) w') => two_new w (.string ⟨#[97]⟩) (.int .i64 2) 51 (Touch.trans (((Touch.refl _ _).alloc _).alloc _) hA))
  go_enter Try.func16, Try.ntmps16
  go_wp2_with (first
    | (go_at_call 10; have A2 := A2; refine (right_none _).mono ?_; rintro e w3 ⟨rfl, hA⟩; have A3 := hid (A2.out.trans hA); clear hA)
    | (go_at_call 10; have A1 := A1; refine (R1.out w1).mono ?_; rintro e w2 ⟨rfl, hA⟩; have A2 := hid ((A1.out.alloc _).trans hA); clear hA)
    | (go_at_call 10; refine R0.out.mono ?_; rintro e w1 ⟨rfl, hA⟩; have A1 := hid (A0.out.trans hA); obtain ⟨c0, c1⟩ := HB.out w1 hA; clear hA))
  go_ret
  exact ⟨rfl, A3.out⟩
end Go.Proofs.Ytlgchdpajfmpdaa
