/- Tables that came in. -/
import Derived.Test.YtlgchdpajfmpdaaBase
import Derived.Test.YtlgchdpajfmpdaaCols
import Derived.Lib.SmallJoins
import Derived.Deep.Grids
namespace Go.Proofs.Ytlgchdpajfmpdaa
open Go.ChangeShapes Go.WideShapes Go.ChangeAt Go.RowKit

theorem k51 : Try.prog.cellsOf 51 = 2 := by kernel_rfl
theorem k24 : Try.prog.cellsOf 24 = 2 := by kernel_rfl
theorem k22 : Try.prog.cellsOf 22 = 1 := by kernel_rfl
theorem k3 : Try.prog.cellsOf 3 = 1 := by kernel_rfl
theorem k9 : Try.prog.cellsOf 9 = 1 := by kernel_rfl
/-- Each has one: a list of them. -/
theorem list_of {β : Type} {P : Nat → β → Prop} : ∀ n, (∀ i, i < n → ∃ x, P i x) → ∃ l : List β, l.length = n ∧ ∀ i x, l[i]? = some x → P i x
  | 0, _ => ⟨[], rfl, fun i x h => by simp at h⟩
  | n + 1, h => by
    obtain ⟨l, hl, hP⟩ := list_of n (fun i hi => h i (by omega))
    obtain ⟨x, hx⟩ := h n (by omega)
    refine ⟨l ++ [x], by simp [hl], fun i y hy => ?_⟩
    rcases Nat.lt_or_ge i n with h1 | h1
    · rw [List.getElem?_append_left (by omega)] at hy
      exact hP i y hy
    · rw [List.getElem?_append_right (by omega)] at hy
      have hlt := (List.getElem?_eq_some_iff.1 hy).1
      simp at hlt
      obtain rfl : i = n := by omega
      rw [show i - l.length = 0 by omega] at hy
      obtain rfl : x = y := by simpa using hy
      exact hx
theorem col_of {H : Type} {enc : TypeId × Value → H} {W : World} {n : Nat} {cs : List Value} {y : DataW H × List MemPlace} (hl : cs.length = 2) (h : DataW.trod enc Try.prog W 0 (fun _ => true) true n 51 cs = some y) : ∃ c : M.Col, cs = cells2 c ∧ -9223372036854775808 ≤ c.2 ∧ c.2 ≤ 9223372036854775807 := by
  match cs, hl with
  | [c0, c1], _ =>
  obtain ⟨y0, y1, m, _, _, hy0, hy1⟩ := trod_struct2 Try.underlying51 h
  obtain ⟨s, e0, _, _⟩ := DataW.trod_string Try.underlying9 hy0
  obtain ⟨k, e1, _, w1⟩ := DataW.trod_int Try.underlying3 hy1
  simp [k3, k9] at e0 e1
  subst e0 e1
  obtain ⟨⟨ts⟩⟩ := s
  exact ⟨(ts, k), rfl, i64_of_wf w1⟩
/-- A slice that came in: its elements' cells. -/
theorem slice_of {H : Type} {enc : TypeId × Value → H} {W : World} {t e size fuel : Nat} {a : Option Addr} {len cap : Nat} {y : DataW H × List MemPlace} (ht : Try.prog.underlying t = some (.slice e)) (hsz : Try.prog.cellsOf e = size) (hp : 0 < size) (h : DataW.trod enc Try.prog W 0 (fun _ => true) true fuel t [.slice a len cap] = some y) :
    (a = none → cap = 0) ∧ len ≤ maxLen ∧ ∀ j, j < len → ∃ b o, a = some ⟨b, o, none⟩ ∧ ∃ cs n y', cs.length = size ∧ (∀ (i : Nat) v, cs[i]? = some v → W.cell? ⟨b, o + j * size + i, none⟩ = some v) ∧ DataW.trod enc Try.prog W 0 (fun _ => true) true n e cs = some y' := by
  rcases Go.Deep.open_slice ht h with ⟨hcs, _⟩ | ⟨x, l, c, m, n, D, Pl, hcs, _, hl, hm, hmm, _, hx⟩
  · simp at hcs
    obtain ⟨rfl, rfl, rfl⟩ := hcs
    exact ⟨fun _ => rfl, Nat.zero_le _, fun j hj => absurd hj (by omega)⟩
  · simp at hcs
    obtain ⟨rfl, rfl, rfl⟩ := hcs
    simp at hmm
    subst hmm
    refine ⟨fun e => (by cases e), by omega, fun j hj => ?_⟩
    rw [hsz] at hx
    obtain ⟨b, o, sp⟩ := x
    have hsp : sp = none := by
      obtain ⟨cs0, k1, _⟩ := hx 0 (by omega)
      obtain ⟨_, hlen0, hcell0⟩ := World.cells?_some k1
      have hc0 := hcell0 0 (by omega)
      rw [Nat.zero_mul] at hc0
      have e1 : ((⟨b, o, sp⟩ : Addr).add 0).add 0 = ⟨b, o, sp⟩ := rfl
      rw [e1] at hc0
      cases sp with
      | none => rfl
      | some q =>
        rw [List.getElem?_eq_getElem (by omega)] at hc0
        simp [World.cell?] at hc0; split at hc0 <;> simp at hc0
    subst hsp
    obtain ⟨cs', k1, k2⟩ := hx j (by omega)
    obtain ⟨_, hlen, hcell⟩ := World.cells?_some k1
    refine ⟨b, o, rfl, cs', n, _, hlen, fun i v hv => ?_, k2⟩
    have hi : i < size := by rw [← hlen]; exact (List.getElem?_eq_some_iff.1 hv).1
    have := hcell i hi
    rw [Addr.add_mid, Addr.add_mid, hv] at this
    exact this
/-- Columns that came in. -/
theorem cols_of {H : Type} {enc : TypeId × Value → H} {W : World} {fuel : Nat} {v : Value} {y : DataW H × List MemPlace} (h : DataW.trod enc Try.prog W 0 (fun _ => true) true fuel 22 [v] = some y) : ∃ a cap cs, v = .slice a (cs : List M.Col).length cap ∧ ColAt W a cs ∧ (a = none → cap = 0) ∧ cs.length ≤ maxLen ∧ ∀ c ∈ cs, -9223372036854775808 ≤ c.2 ∧ c.2 ≤ 9223372036854775807 := by
  obtain ⟨a, len, cap, rfl⟩ : ∃ a len cap, v = .slice a len cap := by
    rcases Go.Deep.open_slice Try.underlying22 h with ⟨hcs, _⟩ | ⟨x, l, c, m, n, D, Pl, hcs, _⟩
    · exact ⟨_, _, _, by simpa using hcs⟩
    · exact ⟨_, _, _, by simpa using hcs⟩
  obtain ⟨h1, h2, h3⟩ := slice_of Try.underlying22 k51 (by omega) h
  obtain ⟨r, hr, hP⟩ := list_of (P := fun j (u : M.Col) => (∃ b o, a = some ⟨b, o, none⟩ ∧ ∀ (i : Nat) v, (cells2 u)[i]? = some v → W.cell? ⟨b, o + j * 2 + i, none⟩ = some v) ∧ -9223372036854775808 ≤ u.2 ∧ u.2 ≤ 9223372036854775807) len (fun j hj => by
    obtain ⟨b, o, e, cs, n, y', hl, hc, ht⟩ := h3 j hj
    obtain ⟨u, rfl, hk⟩ := col_of hl ht
    exact ⟨u, ⟨b, o, e, hc⟩, hk⟩)
  subst hr
  refine ⟨a, cap, r, rfl, fun j u hj => ?_, h1, h2, fun c hc => ?_⟩
  · obtain ⟨⟨b, o, e, hc⟩, _⟩ := hP j u hj
    exact ⟨b, o, e, hc 0 _ rfl, hc 1 _ rfl⟩
  · obtain ⟨k, hk, ek⟩ := List.getElem_of_mem hc
    exact (hP k c (by rw [List.getElem?_eq_getElem hk, ek])).2
/-- A table that came in. -/
theorem table_at {H : Type} {enc : TypeId × Value → H} {W : World} {base : Nat} {v : Value} {d : DataW H} {p : List MemPlace} (hval : Value.okWide Try.prog W .any base 24 v) (h : DataW.Trod enc Try.prog W 0 (fun _ => true) true 24 v d p) : ∃ n a cap cs, v = .agg #[.string ⟨(n : List UInt8).toArray⟩, .slice a (cs : List M.Col).length cap] ∧ ColAt W a cs ∧ (a = none → cap = 0) ∧ cs.length ≤ maxLen ∧ ∀ c ∈ cs, -9223372036854775808 ≤ c.2 ∧ c.2 ≤ 9223372036854775807 := by
  obtain ⟨cs, rfl, hsz⟩ := okWide_struct Try.underlying24 hval
  rw [k24] at hsz
  obtain ⟨l⟩ := cs
  match l, hsz with
  | [c0, c1], _ =>
  obtain ⟨fuel, hf⟩ := h
  obtain ⟨y0, y1, m, _, _, hy0, hy1⟩ := trod_struct2 Try.underlying24 hf
  simp only [Value.cells, k9, k22] at hy0 hy1
  obtain ⟨s, e0, _, _⟩ := DataW.trod_string Try.underlying9 hy0
  simp at e0
  subst e0
  obtain ⟨a, cap, cs, e1, h1⟩ := cols_of hy1
  subst e1
  obtain ⟨⟨ts⟩⟩ := s
  exact ⟨ts, a, cap, cs, rfl, h1⟩
end Go.Proofs.Ytlgchdpajfmpdaa
