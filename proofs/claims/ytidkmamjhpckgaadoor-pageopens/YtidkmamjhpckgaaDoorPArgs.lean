/- Lists of slices of bytes that came in. -/

import Derived.Test.YtidkmamjhpckgaaDoorBase2
import Derived.Test.YtidkmamjhpckgaaDoorPMem
import Derived.Lib.SmallJoins
import Derived.Deep.Grids
namespace Go.Proofs.YtidkmamjhpckgaaDoor
open Go.ChangeShapes Go.WideShapes Go.ChangeAt Go.RowKit

set_option maxRecDepth 100000 in
theorem kB : Tryd.prog.cellsOf 22 = 1 := by kernel_rfl
set_option maxRecDepth 100000 in
/-- Each has one: a list of them. -/
theorem list_of {β : Type} {P : Nat → β → Prop} : ∀ n, (∀ i, i < n → ∃ x, P i x) → ∃ l : List β, l.length = n ∧ ∀ i x, l[i]? = some x → P i x
  | 0, _ => ⟨[], rfl, fun i x h => by simp at h⟩
  | n + 1, h => by
    obtain ⟨l, hl, hP⟩ := list_of n (fun i hi => h i (by omega))
    obtain ⟨x, hx⟩ := h n (by omega)
    refine ⟨l ++ [x], by simp [hl], fun i y hy => ?_⟩
    rcases Nat.lt_or_ge i n with h1 | h1
    · rw [List.getElem?_append_left (by omega)] at hy
      exact hP i y hy
    · rw [List.getElem?_append_right (by omega)] at hy
      have hlt := (List.getElem?_eq_some_iff.1 hy).1
      simp at hlt
      obtain rfl : i = n := by omega
      rw [show i - l.length = 0 by omega] at hy
      obtain rfl : x = y := by simpa using hy
      exact hx
set_option maxRecDepth 100000 in
/-- A slice that came in: its elements' cells. -/
theorem slice_of {H : Type} {enc : TypeId × Value → H} {W : World} {t e size fuel : Nat} {a : Option Addr} {len cap : Nat} {y : DataW H × List MemPlace} (ht : Tryd.prog.underlying t = some (.slice e)) (hsz : Tryd.prog.cellsOf e = size) (hp : 0 < size) (h : DataW.trod enc Tryd.prog W 0 (fun _ => true) true fuel t [.slice a len cap] = some y) :
    (a = none → cap = 0) ∧ len ≤ maxLen ∧ ∀ j, j < len → ∃ b o, a = some ⟨b, o, none⟩ ∧ ∃ cs n y', cs.length = size ∧ (∀ (i : Nat) v, cs[i]? = some v → W.cell? ⟨b, o + j * size + i, none⟩ = some v) ∧ DataW.trod enc Tryd.prog W 0 (fun _ => true) true n e cs = some y' := by
  rcases Go.Deep.open_slice ht h with ⟨hcs, _⟩ | ⟨x, l, c, m, n, D, Pl, hcs, _, hl, hm, hmm, _, hx⟩
  · simp at hcs
    obtain ⟨rfl, rfl, rfl⟩ := hcs
    exact ⟨fun _ => rfl, Nat.zero_le _, fun j hj => absurd hj (by omega)⟩
  · simp at hcs
    obtain ⟨rfl, rfl, rfl⟩ := hcs
    simp at hmm
    subst hmm
    refine ⟨fun e => (by cases e), by omega, fun j hj => ?_⟩
    rw [hsz] at hx
    obtain ⟨b, o, sp⟩ := x
    have hsp : sp = none := by
      obtain ⟨cs0, k1, _⟩ := hx 0 (by omega)
      obtain ⟨_, hlen0, hcell0⟩ := World.cells?_some k1
      have hc0 := hcell0 0 (by omega)
      rw [Nat.zero_mul] at hc0
      have e1 : ((⟨b, o, sp⟩ : Addr).add 0).add 0 = ⟨b, o, sp⟩ := rfl
      rw [e1] at hc0
      cases sp with
      | none => rfl
      | some q =>
        rw [List.getElem?_eq_getElem (by omega)] at hc0
        simp [World.cell?] at hc0; split at hc0 <;> simp at hc0
    subst hsp
    obtain ⟨cs', k1, k2⟩ := hx j (by omega)
    obtain ⟨_, hlen, hcell⟩ := World.cells?_some k1
    refine ⟨b, o, rfl, cs', n, _, hlen, fun i v hv => ?_, k2⟩
    have hi : i < size := by rw [← hlen]; exact (List.getElem?_eq_some_iff.1 hv).1
    have := hcell i hi
    rw [Addr.add_mid, Addr.add_mid, hv] at this
    exact this
set_option maxRecDepth 100000 in
/-- A cell that came in. -/
theorem cell_of {H : Type} {enc : TypeId × Value → H} {W : World} {fuel : Nat} {v : Value} {y : DataW H × List MemPlace} (h : DataW.trod enc Tryd.prog W 0 (fun _ => true) true fuel 22 [v] = some y) : ∃ x : Part, v = .slice x.a x.bs.length x.cap ∧ PQ W (fun _ => True) x ∧ x.bs.length ≤ x.cap := by
  obtain ⟨a, len, cap, rfl⟩ : ∃ a len cap, v = .slice a len cap := by
    rcases Go.Deep.open_slice Tryd.underlying22 h with ⟨hcs, _⟩ | ⟨x, l, c, m, n, D, Pl, hcs, _⟩
    · exact ⟨_, _, _, by simpa using hcs⟩
    · exact ⟨_, _, _, by simpa using hcs⟩
  obtain ⟨d, p⟩ := y
  have h1 : DataW.Trod enc Tryd.prog W 0 (fun _ => true) true 22 (.slice a len cap) d p := ⟨fuel, by simpa [Value.cells] using h⟩
  obtain ⟨bs, rfl, hat, hc, hl, _⟩ := bytes_at h1
  exact ⟨⟨a, bs, cap⟩, rfl, ⟨hat.cq (fun _ _ _ => trivial), hc⟩, hl⟩
set_option maxRecDepth 100000 in
/-- A list of cells that came in. -/
theorem cells_at {H : Type} {enc : TypeId × Value → H} {W : World} {a : Option Addr} {len cap : Nat} {d : DataW H} {p : List MemPlace} (h : DataW.Trod enc Tryd.prog W 0 (fun _ => true) true 32 (.slice a len cap) d p) : ∃ hs : List Part, hs.length = len ∧ GQ W (fun _ => True) ⟨a, cap, hs⟩ ∧ (∀ x ∈ hs, x.bs.length ≤ x.cap) ∧ len ≤ 9223372036854775807 := by
  obtain ⟨fuel, hf⟩ := h
  have hf : DataW.trod enc Tryd.prog W 0 (fun _ => true) true fuel 32 [.slice a len cap] = some (d, p) := by simpa [Value.cells] using hf
  obtain ⟨h1, h2, h3⟩ := slice_of Tryd.underlying32 kB (by omega) hf
  obtain ⟨l, hl, hP⟩ := list_of (P := fun j (x : Part) => (∃ b o, a = some ⟨b, o, none⟩ ∧ W.cell? ⟨b, o + j, none⟩ = some (.slice x.a x.bs.length x.cap)) ∧ PQ W (fun _ => True) x ∧ x.bs.length ≤ x.cap) len (fun j hj => by
    obtain ⟨b, o, e, cs, n, y', hl, hc, ht⟩ := h3 j hj
    match cs, hl with
    | [v], _ =>
    obtain ⟨x, rfl, hx⟩ := cell_of ht
    have := hc 0 _ rfl
    rw [Nat.mul_one, Nat.add_zero] at this
    exact ⟨x, ⟨b, o, e, this⟩, hx⟩)
  have mem : ∀ x ∈ l, ∃ k, l[k]? = some x := fun x hx => by
    obtain ⟨k, hk, ek⟩ := List.getElem_of_mem hx
    exact ⟨k, by rw [List.getElem?_eq_getElem hk, ek]⟩
  refine ⟨l, hl, ⟨fun j u hj => ?_, h1, fun x hx => by obtain ⟨k, hk⟩ := mem x hx; exact (hP k x hk).2.1⟩, fun x hx => by obtain ⟨k, hk⟩ := mem x hx; exact (hP k x hk).2.2, by unfold maxLen at h2; omega⟩
  rw [List.getElem?_map] at hj
  cases hx : l[j]? with
  | none => rw [show ({ a := a, cap := cap, l := l } : Pl).l[j]? = l[j]? from rfl, hx] at hj; cases hj
  | some x =>
    rw [show ({ a := a, cap := cap, l := l } : Pl).l[j]? = l[j]? from rfl, hx] at hj
    obtain ⟨⟨b, o, e, hc⟩, _⟩ := hP j x hx
    have e2 : PV x = u := Option.some.inj hj
    subst e2
    exact ⟨b, o, e, trivial, hc⟩
end Go.Proofs.YtidkmamjhpckgaaDoor
