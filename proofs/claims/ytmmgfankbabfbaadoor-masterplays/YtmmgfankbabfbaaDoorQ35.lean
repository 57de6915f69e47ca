/- A loss that came in. -/
import Derived.Test.YtmmgfankbabfbaaDoorQ32
import Derived.Test.YtmmgfankbabfbaaDoorQ13
namespace Go.Proofs.YtmmgfankbabfbaaDoor
open Go.ChangeShapes Go.WideShapes Go.ChangeAt Go.RowKit Go.Joins
set_option maxRecDepth 100000 in
/-- Out of the reading: where a slice's truths lie. -/
theorem bools_atU {H : Type} {enc : TypeId × Value → H} {W : World} {v : Value} {n : Nat} {y : DataW H × List MemPlace} (h : DataW.trod enc Tryd.prog W 0 (fun _ => true) true n 39 [v] = some y) :
    ∃ ka kc ks, v = .slice ka (List.length ks) kc ∧ KeptAt W ka ks ∧ ks.length ≤ 9223372036854775807 := by
  rcases Go.Deep.open_bools Tryd.underlying39 Tryd.underlying4 (by kernel_rfl) h with ⟨hcs, _⟩ | ⟨a, len, cap, B, hcs, _, hl, hm, _, hcell⟩
  · simp at hcs
    subst hcs
    exact ⟨none, 0, [], rfl, fun j hj => absurd hj (by simp), by simp⟩
  · simp at hcs
    subst hcs
    refine ⟨some a, cap, (List.range len).map B, by simp, fun j hj => ?_, by unfold maxLen at hm; simp; omega⟩
    have hj' : j < len := by simpa using hj
    obtain ⟨b, o, sp⟩ := a
    have hc := hcell j (by omega)
    have hsp : sp = none := by
      have hc0 := hcell 0 (by omega)
      have : (⟨b, o, sp⟩ : Addr).add 0 = ⟨b, o, sp⟩ := rfl
      rw [this] at hc0
      cases sp with
      | none => rfl
      | some q => simp [World.cell?] at hc0; split at hc0 <;> simp at hc0
    subst hsp
    exact ⟨b, o, rfl, by rw [← Addr.add_mid, hc]; simp⟩
set_option maxRecDepth 100000 in
/-- Out of the reading: a loss. -/
theorem loss_ofU {H : Type} {enc : TypeId × Value → H} {W : World} {n : Nat} {cs : List Value} {y : DataW H × List MemPlace} (h : DataW.trod enc Tryd.prog W 0 (fun _ => true) true n 41 cs = some y) :
    ∃ ka kc ks torn at_, cs = [.slice ka (List.length ks) kc, .int .i64 torn, .int .i64 at_] ∧ KeptAt W ka ks ∧ ks.length ≤ 9223372036854775807 := by
  obtain ⟨ys, m, _, _, hl, hyl, hg⟩ := DataW.trod_struct Tryd.underlying41 h
  have cL : Tryd.prog.cellsOf 41 = 3 := by kernel_rfl
  have c3' : Tryd.prog.cellsOf 3 = 1 := by kernel_rfl
  have cB : Tryd.prog.cellsOf 39 = 1 := by kernel_rfl
  rw [cL] at hl
  match ys, hyl, cs, hl with
  | [z0, z1, z2], _, [v0, v1, v2], _ =>
    have q0 := hg 0 _ rfl
    have q1 := hg 1 _ rfl
    have q2 := hg 2 _ rfl
    simp [cB] at q0
    simp [c3'] at q1 q2
    obtain ⟨ka, kc, ks, e5, hk, hkn⟩ := bools_atU q0
    obtain ⟨torn, e6, _, _⟩ := DataW.trod_int Tryd.underlying3 q1
    obtain ⟨at_, e7, _, _⟩ := DataW.trod_int Tryd.underlying3 q2
    refine ⟨ka, kc, ks, torn, at_, ?_, hk, hkn⟩
    simp at e5 e6 e7
    rw [e5, e6, e7]
set_option maxRecDepth 100000 in
/-- Out of the reading: a loss that came in. -/
theorem loss_atU {H : Type} {enc : TypeId × Value → H} {W : World} {base : Nat} {v : Value} {d : DataW H} {p : List MemPlace} (hval : Value.okWide Tryd.prog W .any base 41 v) (h : DataW.Trod enc Tryd.prog W 0 (fun _ => true) true 41 v d p) : ∃ ka kc ks torn at_, v = .agg #[.slice ka (List.length ks) kc, .int .i64 torn, .int .i64 at_] ∧ KeptAt W ka ks ∧ ks.length ≤ 9223372036854775807 := by
  obtain ⟨cs, rfl, _⟩ := okWide_struct Tryd.underlying41 hval
  obtain ⟨l⟩ := cs
  obtain ⟨fuel, hf⟩ := h
  obtain ⟨ka, kc, ks, torn, at_, e, hk, hkn⟩ := loss_ofU hf
  simp only [Value.cells] at e
  exact ⟨ka, kc, ks, torn, at_, by rw [e], hk, hkn⟩
end Go.Proofs.YtmmgfankbabfbaaDoor
