/- Lists of slices of bytes that came in, with their bounds. -/
import Derived.Test.YtidkmamjhpckgaaPArgs
namespace Go.Proofs.Ytidkmamjhpckgaa
open Go.ChangeShapes Go.WideShapes Go.ChangeAt Go.RowKit

set_option maxRecDepth 100000 in
/-- A cell that came in. -/
theorem cell_of2 {H : Type} {enc : TypeId × Value → H} {W : World} {fuel : Nat} {v : Value} {y : DataW H × List MemPlace} (h : DataW.trod enc Try.prog W 0 (fun _ => true) true fuel 22 [v] = some y) : ∃ x : Part, v = .slice x.a x.bs.length x.cap ∧ PQ W (fun _ => True) x ∧ x.bs.length ≤ x.cap ∧ x.cap ≤ 9223372036854775807 := by
  obtain ⟨a, len, cap, rfl⟩ : ∃ a len cap, v = .slice a len cap := by
    rcases Go.Deep.open_slice Try.underlying22 h with ⟨hcs, _⟩ | ⟨x, l, c, m, n, D, Pl, hcs, _⟩
    · exact ⟨_, _, _, by simpa using hcs⟩
    · exact ⟨_, _, _, by simpa using hcs⟩
  obtain ⟨d, p⟩ := y
  have h1 : DataW.Trod enc Try.prog W 0 (fun _ => true) true 22 (.slice a len cap) d p := ⟨fuel, by simpa [Value.cells] using h⟩
  obtain ⟨bs, rfl, hat, hc, hl, hm⟩ := bytes_at h1
  exact ⟨⟨a, bs, cap⟩, rfl, ⟨hat.cq (fun _ _ _ => trivial), hc⟩, hl, by unfold maxLen at hm; exact hm⟩
set_option maxRecDepth 100000 in
/-- A list of cells that came in. -/
theorem cells_at2 {H : Type} {enc : TypeId × Value → H} {W : World} {a : Option Addr} {len cap : Nat} {d : DataW H} {p : List MemPlace} (h : DataW.Trod enc Try.prog W 0 (fun _ => true) true 23 (.slice a len cap) d p) : ∃ hs : List Part, hs.length = len ∧ GQ W (fun _ => True) ⟨a, cap, hs⟩ ∧ (∀ x ∈ hs, x.bs.length ≤ x.cap ∧ x.cap ≤ 9223372036854775807) ∧ len ≤ 9223372036854775807 := by
  obtain ⟨fuel, hf⟩ := h
  have hf : DataW.trod enc Try.prog W 0 (fun _ => true) true fuel 23 [.slice a len cap] = some (d, p) := by simpa [Value.cells] using hf
  obtain ⟨h1, h2, h3⟩ := slice_of Try.underlying23 kB (by omega) hf
  obtain ⟨l, hl, hP⟩ := list_of (P := fun j (x : Part) => (∃ b o, a = some ⟨b, o, none⟩ ∧ W.cell? ⟨b, o + j, none⟩ = some (.slice x.a x.bs.length x.cap)) ∧ PQ W (fun _ => True) x ∧ x.bs.length ≤ x.cap ∧ x.cap ≤ 9223372036854775807) len (fun j hj => by
    obtain ⟨b, o, e, cs, n, y', hl, hc, ht⟩ := h3 j hj
    match cs, hl with
    | [v], _ =>
    obtain ⟨x, rfl, hx⟩ := cell_of2 ht
    have := hc 0 _ rfl
    rw [Nat.mul_one, Nat.add_zero] at this
    exact ⟨x, ⟨b, o, e, this⟩, hx⟩)
  have mem : ∀ x ∈ l, ∃ k, l[k]? = some x := fun x hx => by
    obtain ⟨k, hk, ek⟩ := List.getElem_of_mem hx
    exact ⟨k, by rw [List.getElem?_eq_getElem hk, ek]⟩
  refine ⟨l, hl, ⟨fun j u hj => ?_, h1, fun x hx => by obtain ⟨k, hk⟩ := mem x hx; exact (hP k x hk).2.1⟩, fun x hx => by obtain ⟨k, hk⟩ := mem x hx; exact (hP k x hk).2.2, by unfold maxLen at h2; omega⟩
  rw [List.getElem?_map] at hj
  cases hx : l[j]? with
  | none => rw [show ({ a := a, cap := cap, l := l } : Pl).l[j]? = l[j]? from rfl, hx] at hj; cases hj
  | some x =>
    rw [show ({ a := a, cap := cap, l := l } : Pl).l[j]? = l[j]? from rfl, hx] at hj
    obtain ⟨⟨b, o, e, hc⟩, _⟩ := hP j x hx
    have e2 : PV x = u := Option.some.inj hj
    subst e2
    exact ⟨b, o, e, trivial, hc⟩
end Go.Proofs.Ytidkmamjhpckgaa
