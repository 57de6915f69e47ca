/- Lists of numbers that came in, and lists of these. -/
import Derived.Test.YtmmgfankbabfbaaDoorQ30
import Derived.Test.YtmmgfankbabfbaaDoorQ17
import Derived.Lib.SmallJoins
import Derived.Deep.Grids
namespace Go.Proofs.YtmmgfankbabfbaaDoor
open Go.ChangeShapes Go.WideShapes Go.ChangeAt Go.RowKit
set_option maxRecDepth 100000 in
/-- Each has one: a list of them. -/
theorem list_ofU {β : Type} {P : Nat → β → Prop} : ∀ n, (∀ i, i < n → ∃ x, P i x) → ∃ l : List β, l.length = n ∧ ∀ i x, l[i]? = some x → P i x
  | 0, _ => ⟨[], rfl, fun i x h => by simp at h⟩
  | n + 1, h => by
    obtain ⟨l, hl, hP⟩ := list_ofU n (fun i hi => h i (by omega))
    obtain ⟨x, hx⟩ := h n (by omega)
    refine ⟨l ++ [x], by simp [hl], fun i y hy => ?_⟩
    rcases Nat.lt_or_ge i n with h1 | h1
    · rw [List.getElem?_append_left (by omega)] at hy
      exact hP i y hy
    · rw [List.getElem?_append_right (by omega)] at hy
      have hlt := (List.getElem?_eq_some_iff.1 hy).1
      simp at hlt
      obtain rfl : i = n := by omega
      rw [show i - l.length = 0 by omega] at hy
      obtain rfl : x = y := by simpa using hy
      exact hx
set_option maxRecDepth 100000 in
/-- A slice that came in: its elements' cells. -/
theorem slice_ofU {H : Type} {enc : TypeId × Value → H} {W : World} {t e size fuel : Nat} {a : Option Addr} {len cap : Nat} {y : DataW H × List MemPlace} (ht : Tryd.prog.underlying t = some (.slice e)) (hsz : Tryd.prog.cellsOf e = size) (hp : 0 < size) (h : DataW.trod enc Tryd.prog W 0 (fun _ => true) true fuel t [.slice a len cap] = some y) :
    (a = none → cap = 0) ∧ len ≤ maxLen ∧ ∀ j, j < len → ∃ b o, a = some ⟨b, o, none⟩ ∧ ∃ cs n y', cs.length = size ∧ (∀ (i : Nat) v, cs[i]? = some v → W.cell? ⟨b, o + j * size + i, none⟩ = some v) ∧ DataW.trod enc Tryd.prog W 0 (fun _ => true) true n e cs = some y' := by
  rcases Go.Deep.open_slice ht h with ⟨hcs, _⟩ | ⟨x, l, c, m, n, D, Pl, hcs, _, hl, hm, hmm, _, hx⟩
  · simp at hcs
    obtain ⟨rfl, rfl, rfl⟩ := hcs
    exact ⟨fun _ => rfl, Nat.zero_le _, fun j hj => absurd hj (by omega)⟩
  · simp at hcs
    obtain ⟨rfl, rfl, rfl⟩ := hcs
    simp at hmm
    subst hmm
    refine ⟨fun e => (by cases e), by omega, fun j hj => ?_⟩
    rw [hsz] at hx
    obtain ⟨b, o, sp⟩ := x
    have hsp : sp = none := by
      obtain ⟨cs0, k1, _⟩ := hx 0 (by omega)
      obtain ⟨_, hlen0, hcell0⟩ := World.cells?_some k1
      have hc0 := hcell0 0 (by omega)
      rw [Nat.zero_mul] at hc0
      have e1 : ((⟨b, o, sp⟩ : Addr).add 0).add 0 = ⟨b, o, sp⟩ := rfl
      rw [e1] at hc0
      cases sp with
      | none => rfl
      | some q =>
        rw [List.getElem?_eq_getElem (by omega)] at hc0
        simp [World.cell?] at hc0; split at hc0 <;> simp at hc0
    subst hsp
    obtain ⟨cs', k1, k2⟩ := hx j (by omega)
    obtain ⟨_, hlen, hcell⟩ := World.cells?_some k1
    refine ⟨b, o, rfl, cs', n, _, hlen, fun i v hv => ?_, k2⟩
    have hi : i < size := by rw [← hlen]; exact (List.getElem?_eq_some_iff.1 hv).1
    have := hcell i hi
    rw [Addr.add_mid, Addr.add_mid, hv] at this
    exact this
set_option maxRecDepth 100000 in
theorem kU : Tryd.prog.cellsOf 67 = 1 := by kernel_rfl
set_option maxRecDepth 100000 in
theorem kUs : Tryd.prog.cellsOf 38 = 1 := by kernel_rfl
set_option maxRecDepth 100000 in
/-- Numbers that came in. -/
theorem u64s_at {H : Type} {enc : TypeId × Value → H} {W : World} {a : Option Addr} {len cap : Nat} {d : DataW H} {p : List MemPlace} (h : DataW.Trod enc Tryd.prog W 0 (fun _ => true) true 38 (.slice a len cap) d p) : ∃ ns : List Nat, ns.length = len ∧ NQ W (fun k => k < W.heap.size) ⟨a, cap, ns⟩ ∧ (∀ n ∈ ns, n < 18446744073709551616) ∧ len ≤ 9223372036854775807 := by
  obtain ⟨fuel, hf⟩ := h
  have hf : DataW.trod enc Tryd.prog W 0 (fun _ => true) true fuel 38 [.slice a len cap] = some (d, p) := by simpa [Value.cells] using hf
  rcases open_ints Tryd.underlying38 Tryd.underlying67 kU hf with ⟨hcs, _⟩ | ⟨x, l, c, zs, hcs, _, hl, hm, hz, _, hcell, hwz⟩
  · simp at hcs
    obtain ⟨rfl, rfl, rfl⟩ := hcs
    exact ⟨[], rfl, NQ.nil _ _, fun _ h => (by cases h), by omega⟩
  · simp at hcs
    obtain ⟨rfl, rfl, rfl⟩ := hcs
    have hz' : zs.length = cap := by simpa using hz
    obtain ⟨ns, hns, hP⟩ := list_ofU (P := fun j (n : Nat) => W.cell? (x.add j) = some (.int .u64 (n : Int)) ∧ n < 18446744073709551616) len (fun j hj => by
      have hc := hcell j (by omega)
      have hmem : zs.getD j 0 ∈ zs := by
        rw [List.getD_eq_getElem?_getD, List.getElem?_eq_getElem (by omega), Option.getD_some]; exact List.getElem_mem _
      obtain ⟨n, hn, hlt⟩ := u64_of_wf (hwz _ hmem)
      exact ⟨n, by rw [hc, hn], hlt⟩)
    have hmem : ∀ n ∈ ns, n < 18446744073709551616 := fun n hn => by
      obtain ⟨k, hk, ek⟩ := List.getElem_of_mem hn
      exact (hP k n (by rw [List.getElem?_eq_getElem hk, ek])).2
    refine ⟨ns, hns, ⟨fun j u hj => ?_, fun e => (by cases e)⟩, hmem, by unfold maxLen at hm; omega⟩
    rw [show ({ a := some x, cap := cap, ns := ns } : NPart).ns = ns from rfl, N8_get] at hj
    obtain ⟨n, hn, rfl⟩ := Option.map_eq_some_iff.1 hj
    have hc := (hP j n hn).1
    obtain ⟨b, o, sp⟩ := x
    have hsp : sp = none := by
      have hj' : j < ns.length := (List.getElem?_eq_some_iff.1 hn).1
      have hc0 := hcell 0 (by omega)
      have : (⟨b, o, sp⟩ : Addr).add 0 = ⟨b, o, sp⟩ := rfl
      rw [this] at hc0
      cases sp with
      | none => rfl
      | some q => simp [World.cell?] at hc0; split at hc0 <;> simp at hc0
    subst hsp
    rw [Addr.add_mid] at hc
    exact ⟨b, o, rfl, World.block_lt_of_cell? W _ hc, hc⟩
set_option maxRecDepth 100000 in
theorem u64s_of {H : Type} {enc : TypeId × Value → H} {W : World} {fuel : Nat} {v : Value} {y : DataW H × List MemPlace} (h : DataW.trod enc Tryd.prog W 0 (fun _ => true) true fuel 38 [v] = some y) : ∃ x : NPart, v = .slice x.a x.ns.length x.cap ∧ NQ W (fun k => k < W.heap.size) x ∧ (∀ n ∈ x.ns, n < 18446744073709551616) ∧ x.ns.length ≤ 9223372036854775807 := by
  obtain ⟨a, len, cap, rfl⟩ : ∃ a len cap, v = .slice a len cap := by
    rcases Go.Deep.open_slice Tryd.underlying38 h with ⟨hcs, _⟩ | ⟨x, l, c, m, n, D, Pl, hcs, _⟩
    · exact ⟨_, _, _, by simpa using hcs⟩
    · exact ⟨_, _, _, by simpa using hcs⟩
  obtain ⟨d, p⟩ := y
  have h1 : DataW.Trod enc Tryd.prog W 0 (fun _ => true) true 38 (.slice a len cap) d p := ⟨fuel, by simpa [Value.cells] using h⟩
  obtain ⟨ns, hl, hq, hlt, hm⟩ := u64s_at h1
  subst hl
  exact ⟨⟨a, cap, ns⟩, rfl, hq, hlt, hm⟩
/-- Where lists of numbers lie, one behind the other. -/
def NsAt (W : World) (a : Option Addr) (len : Nat) (xs : List NPart) : Prop := xs.length = len ∧ ∀ k x, xs[k]? = some x → ∃ b o, a = some ⟨b, o, none⟩ ∧ b < W.heap.size ∧ W.cell? ⟨b, o + k, none⟩ = some (.slice x.a x.ns.length x.cap) ∧ NQ W (fun k => k < W.heap.size) x ∧ (∀ n ∈ x.ns, n < 18446744073709551616) ∧ x.ns.length ≤ 9223372036854775807
set_option maxRecDepth 100000 in
theorem u64ss_at {H : Type} {enc : TypeId × Value → H} {W : World} {a : Option Addr} {len cap : Nat} {d : DataW H} {p : List MemPlace} (h : DataW.Trod enc Tryd.prog W 0 (fun _ => true) true 63 (.slice a len cap) d p) : ∃ xs : List NPart, NsAt W a len xs ∧ len ≤ 9223372036854775807 := by
  obtain ⟨fuel, hf⟩ := h
  have hf : DataW.trod enc Tryd.prog W 0 (fun _ => true) true fuel 63 [.slice a len cap] = some (d, p) := by simpa [Value.cells] using hf
  obtain ⟨h1, h2, h3⟩ := slice_ofU Tryd.underlying63 kUs (by omega) hf
  obtain ⟨l, hl, hP⟩ := list_ofU (P := fun j (x : NPart) => ∃ b o, a = some ⟨b, o, none⟩ ∧ b < W.heap.size ∧ W.cell? ⟨b, o + j, none⟩ = some (.slice x.a x.ns.length x.cap) ∧ NQ W (fun k => k < W.heap.size) x ∧ (∀ n ∈ x.ns, n < 18446744073709551616) ∧ x.ns.length ≤ 9223372036854775807) len (fun j hj => by
    obtain ⟨b, o, e, cs, n, y', hl, hc, ht⟩ := h3 j hj
    match cs, hl with
    | [v], _ =>
    obtain ⟨x, rfl, hx⟩ := u64s_of ht
    have := hc 0 _ rfl
    rw [Nat.mul_one, Nat.add_zero] at this
    exact ⟨x, b, o, e, World.block_lt_of_cell? W _ this, this, hx⟩)
  exact ⟨l, ⟨hl, hP⟩, by unfold maxLen at h2; omega⟩
/-- Where numbers lie. -/
def IsAt (W : World) (a : Option Addr) (len : Nat) : Prop := ∀ j, j < len → ∃ b o z, a = some ⟨b, o, none⟩ ∧ W.cell? ⟨b, o + j, none⟩ = some (.int .i64 z)
set_option maxRecDepth 100000 in
theorem c3U : Tryd.prog.cellsOf 3 = 1 := by kernel_rfl
set_option maxRecDepth 100000 in
theorem ints_at {H : Type} {enc : TypeId × Value → H} {W : World} {a1 : Option Addr} {len1 cap1 : Nat} {d1 : DataW H} {p1 : List MemPlace} (h1 : DataW.Trod enc Tryd.prog W 0 (fun _ => true) true 71 (.slice a1 len1 cap1) d1 p1) : IsAt W a1 len1 ∧ len1 ≤ 9223372036854775807 := by
  obtain ⟨fuel, hf⟩ := h1
  rcases open_ints Tryd.underlying71 Tryd.underlying3 c3U hf with ⟨hcs, _⟩ | ⟨x, l, c, zs, hcs, _, hl, hm, hz, _, hcell, hwz⟩
  · simp [Value.cells] at hcs
    obtain ⟨rfl, rfl, rfl⟩ := hcs
    exact ⟨fun j hj => absurd hj (by omega), by omega⟩
  · simp [Value.cells] at hcs
    obtain ⟨rfl, rfl, rfl⟩ := hcs
    have hz' : zs.length = cap1 := by simpa using hz
    refine ⟨fun j hj => ?_, by unfold maxLen at hm; omega⟩
    obtain ⟨b, o, sp⟩ := x
    have hc := hcell j (by omega)
    have hsp : sp = none := by
      have hc0 := hcell 0 (by omega)
      have : (⟨b, o, sp⟩ : Addr).add 0 = ⟨b, o, sp⟩ := rfl
      rw [this] at hc0
      cases sp with
      | none => rfl
      | some q => simp [World.cell?] at hc0; split at hc0 <;> simp at hc0
    subst hsp
    exact ⟨b, o, zs.getD j 0, rfl, by rw [← Addr.add_mid]; exact hc⟩
end Go.Proofs.YtmmgfankbabfbaaDoor
