/- A sum, and truths joined, at the values of the chapter's examples. -/
import Derived.Test.YtjmldloalieelaaSmall
namespace Go.Proofs.Ytjmldloalieelaa
open Go.RowKit

theorem three {w w' : World} {x y z : Array Value} (h : Adds (((w.alloc (.cells x 24)).alloc (.cells y 24)).alloc (.cells z 24)) w') :
    w'.heap[w.heap.size]? = some (.cells x 24 (0, 0)) ∧ w'.heap[w.heap.size + 1]? = some (.cells y 24 (0, 0)) ∧ w'.heap[w.heap.size + 2]? = some (.cells z 24 (0, 0)) := by
  have h1 := box_here (((alloc_adds (w.alloc (.cells x 24)) (.cells y 24)).trans (alloc_adds _ (.cells z 24))).trans h)
  have h2 := box_here ((alloc_adds ((w.alloc (.cells x 24)).alloc (.cells y 24)) (.cells z 24)).trans h)
  have h3 := box_here h
  simp only [World.size_alloc] at h2 h3
  exact ⟨h1, h2, h3⟩
set_option maxHeartbeats 1000000 in
theorem calc_add (w : World) : Calls Try.prog 7 #[.int .i64 3, .agg #[.int .i64 2, .int .i64 9223372036854775807, .float .f64 0, .string ⟨#[]⟩], .agg #[.int .i64 2, .int .i64 1, .float .f64 0, .string ⟨#[]⟩]] w (Tells w (.tuple #[.agg #[.int .i64 2, .int .i64 (-9223372036854775808), .float .f64 0, .string ⟨#[]⟩], .int .i64 0])) := by
  have hs := hst
  go_enter Try.func7, Try.ntmps7
  go_wp2_with (first
    | (go_at_call 24; refine (number_any _ _).mono ?_; rintro e w3 ⟨rfl, hA⟩; have A3 := hid (A2.out.trans hA); obtain ⟨b1, b2, b3⟩ := three A3.out; have c0 := cellOf b1 0; have c1 := cellOf b1 1; have c2 := cellOf b1 2; have c3 := cellOf b1 3; have d0 := cellOf b2 0; have d1 := cellOf b2 1; have d2 := cellOf b2 2; have d3 := cellOf b2 3; have e0 := cellOf b3 0; have e1 := cellOf b3 1; have e2 := cellOf b3 2; have e3 := cellOf b3 3; have g0 := frozen_of_row w3 _ 0 _ 24 b3; have g1 := frozen_of_row w3 _ 1 _ 24 b3; have g2 := frozen_of_row w3 _ 2 _ 24 b3; have g3 := frozen_of_row w3 _ 3 _ 24 b3; clear b1 b2 b3; simp at c0 c1 c2 c3 d0 d1 d2 d3 e0 e1 e2 e3; clear hA)
    | (go_at_call 25; refine (reckon_add _).mono ?_; rintro e w' ⟨rfl, hw⟩; obtain rfl := hw.symm)
    | (go_at_call 23; have A1 := A1; refine (canReckon_int _ _).mono ?_; rintro e w2 ⟨rfl, hA⟩; have A2 := hid (A1.out.trans hA); obtain ⟨b1, b2, b3⟩ := three A2.out; have c0 := cellOf b1 0; have c1 := cellOf b1 1; have c2 := cellOf b1 2; have c3 := cellOf b1 3; have d0 := cellOf b2 0; have d1 := cellOf b2 1; have d2 := cellOf b2 2; have d3 := cellOf b2 3; have e0 := cellOf b3 0; have e1 := cellOf b3 1; have e2 := cellOf b3 2; have e3 := cellOf b3 3; have g0 := frozen_of_row w2 _ 0 _ 24 b3; have g1 := frozen_of_row w2 _ 1 _ 24 b3; have g2 := frozen_of_row w2 _ 2 _ 24 b3; have g3 := frozen_of_row w2 _ 3 _ 24 b3; clear b1 b2 b3; simp at c0 c1 c2 c3 d0 d1 d2 d3 e0 e1 e2 e3; clear hA)
    | (go_at_call 23; refine (canReckon_int _ _).mono ?_; rintro e w1 ⟨rfl, hA⟩; have A1 := hid hA; obtain ⟨b1, b2, b3⟩ := three hA; have c0 := cellOf b1 0; have c1 := cellOf b1 1; have c2 := cellOf b1 2; have c3 := cellOf b1 3; have d0 := cellOf b2 0; have d1 := cellOf b2 1; have d2 := cellOf b2 2; have d3 := cellOf b2 3; have e0 := cellOf b3 0; have e1 := cellOf b3 1; have e2 := cellOf b3 2; have e3 := cellOf b3 3; have g0 := frozen_of_row w1 _ 0 _ 24 b3; have g1 := frozen_of_row w1 _ 1 _ 24 b3; have g2 := frozen_of_row w1 _ 2 _ 24 b3; have g3 := frozen_of_row w1 _ 3 _ 24 b3; clear b1 b2 b3; simp at c0 c1 c2 c3 d0 d1 d2 d3 e0 e1 e2 e3; clear hA))
  refine bodyPost_ret (v := .tuple #[.agg #[.int .i64 2, .int .i64 (-9223372036854775808), .float .f64 0, .string ⟨#[]⟩], .int .i64 0]) (by simp [results, Try.results7, go_sem, e0, e1, e2, e3]) rfl ⟨rfl, ?_⟩
  exact set4 (w.heap.size + 2) (by omega) (((((Touch.refl _ w).alloc _).alloc _).alloc _).trans A3.out)
end Go.Proofs.Ytjmldloalieelaa
