/- Rows, lists of rows and orders that came in. -/
import Derived.Test.YtkkmbpcmkhikkaaBase
import Derived.Test.YtkkmbpcmkhikkaaSame
import Derived.Lib.SmallJoins
import Derived.Deep.Grids
namespace Go.Proofs.Ytkkmbpcmkhikkaa
open Go.ChangeShapes Go.WideShapes Go.ChangeAt Go.RowKit

theorem k47 : Try.prog.cellsOf 47 = 4 := by kernel_rfl
theorem k30 : Try.prog.cellsOf 30 = 1 := by kernel_rfl
theorem k44 : Try.prog.cellsOf 44 = 2 := by kernel_rfl
theorem k4 : Try.prog.cellsOf 4 = 1 := by kernel_rfl
theorem k3 : Try.prog.cellsOf 3 = 1 := by kernel_rfl
theorem k2 : Try.prog.cellsOf 2 = 1 := by kernel_rfl
theorem k45 : Try.prog.cellsOf 45 = 1 := by kernel_rfl
theorem k9 : Try.prog.cellsOf 9 = 1 := by kernel_rfl
theorem trod_float {H : Type} {enc : TypeId × Value → H} {P : Program} {w : World} {base : Nat} {spare : Nat → Bool} {held : Bool} {fuel : Nat} {t : TypeId} {cs : List Value} {x : DataW H × List MemPlace} (ht : P.underlying t = some (.float .f64)) (h : DataW.trod enc P w base spare held fuel t cs = some x) :
    ∃ b, cs = [.float .f64 b] ∧ (Lit.float .f64 b).wf = true := by
  cases fuel with
  | zero => simp [DataW.trod] at h
  | succ n =>
    unfold DataW.trod at h
    rw [ht] at h
    split at h <;> simp_all
/-- Each has one: a list of them. -/
theorem list_of {β : Type} {P : Nat → β → Prop} : ∀ n, (∀ i, i < n → ∃ x, P i x) → ∃ l : List β, l.length = n ∧ ∀ i x, l[i]? = some x → P i x
  | 0, _ => ⟨[], rfl, fun i x h => by simp at h⟩
  | n + 1, h => by
    obtain ⟨l, hl, hP⟩ := list_of n (fun i hi => h i (by omega))
    obtain ⟨x, hx⟩ := h n (by omega)
    refine ⟨l ++ [x], by simp [hl], fun i y hy => ?_⟩
    rcases Nat.lt_or_ge i n with h1 | h1
    · rw [List.getElem?_append_left (by omega)] at hy
      exact hP i y hy
    · rw [List.getElem?_append_right (by omega)] at hy
      have hlt := (List.getElem?_eq_some_iff.1 hy).1
      simp at hlt
      obtain rfl : i = n := by omega
      rw [show i - l.length = 0 by omega] at hy
      obtain rfl : x = y := by simpa using hy
      exact hx
theorem val_of {H : Type} {enc : TypeId × Value → H} {W : World} {n : Nat} {cs : List Value} {y : DataW H × List MemPlace} (hl : cs.length = 4) (h : DataW.trod enc Try.prog W 0 (fun _ => true) true n 47 cs = some y) : ∃ v : M.V, cs = cells4 v ∧ v.Ok ∧ v.t.length ≤ maxLen := by
  match cs, hl with
  | [c0, c1, c2, c3], _ =>
  obtain ⟨y0, y1, y2, y3, m, _, _, hy0, hy1, hy2, hy3⟩ := Go.Joins.trod_struct4 Try.underlying47 h
  obtain ⟨k, e0, _, w0⟩ := DataW.trod_int Try.underlying3 hy0
  obtain ⟨z, e1, _, w1⟩ := DataW.trod_int Try.underlying2 hy1
  obtain ⟨b, e2, w2⟩ := trod_float Try.underlying45 hy2
  obtain ⟨s, e3, _, hs⟩ := DataW.trod_string Try.underlying9 hy3
  simp [k3, k2, k45, k9] at e0 e1 e2 e3
  subst e0 e1 e2 e3
  obtain ⟨⟨ts⟩⟩ := s
  refine ⟨⟨k, z, b, ts⟩, rfl, ⟨i64_of_wf w0, i64_of_wf w1, f64_of_wf w2⟩, ?_⟩
  exact hs
/-- A slice that came in: its elements' cells. -/
theorem slice_of {H : Type} {enc : TypeId × Value → H} {W : World} {t e size fuel : Nat} {a : Option Addr} {len cap : Nat} {y : DataW H × List MemPlace} (ht : Try.prog.underlying t = some (.slice e)) (hsz : Try.prog.cellsOf e = size) (hp : 0 < size) (h : DataW.trod enc Try.prog W 0 (fun _ => true) true fuel t [.slice a len cap] = some y) :
    (a = none → cap = 0) ∧ len ≤ maxLen ∧ ∀ j, j < len → ∃ b o, a = some ⟨b, o, none⟩ ∧ ∃ cs n y', cs.length = size ∧ (∀ (i : Nat) v, cs[i]? = some v → W.cell? ⟨b, o + j * size + i, none⟩ = some v) ∧ DataW.trod enc Try.prog W 0 (fun _ => true) true n e cs = some y' := by
  rcases Go.Deep.open_slice ht h with ⟨hcs, _⟩ | ⟨x, l, c, m, n, D, Pl, hcs, _, hl, hm, hmm, _, hx⟩
  · simp at hcs
    obtain ⟨rfl, rfl, rfl⟩ := hcs
    exact ⟨fun _ => rfl, Nat.zero_le _, fun j hj => absurd hj (by omega)⟩
  · simp at hcs
    obtain ⟨rfl, rfl, rfl⟩ := hcs
    simp at hmm
    subst hmm
    refine ⟨fun e => (by cases e), by omega, fun j hj => ?_⟩
    rw [hsz] at hx
    obtain ⟨b, o, sp⟩ := x
    have hsp : sp = none := by
      obtain ⟨cs0, k1, _⟩ := hx 0 (by omega)
      obtain ⟨_, hlen0, hcell0⟩ := World.cells?_some k1
      have hc0 := hcell0 0 (by omega)
      rw [Nat.zero_mul] at hc0
      have e1 : ((⟨b, o, sp⟩ : Addr).add 0).add 0 = ⟨b, o, sp⟩ := rfl
      rw [e1] at hc0
      cases sp with
      | none => rfl
      | some q =>
        rw [List.getElem?_eq_getElem (by omega)] at hc0
        simp [World.cell?] at hc0; split at hc0 <;> simp at hc0
    subst hsp
    obtain ⟨cs', k1, k2⟩ := hx j (by omega)
    obtain ⟨_, hlen, hcell⟩ := World.cells?_some k1
    refine ⟨b, o, rfl, cs', n, _, hlen, fun i v hv => ?_, k2⟩
    have hi : i < size := by rw [← hlen]; exact (List.getElem?_eq_some_iff.1 hv).1
    have := hcell i hi
    rw [Addr.add_mid, Addr.add_mid, hv] at this
    exact this
/-- A row that came in. -/
theorem row_of {H : Type} {enc : TypeId × Value → H} {W : World} {fuel : Nat} {v : Value} {y : DataW H × List MemPlace} (h : DataW.trod enc Try.prog W 0 (fun _ => true) true fuel 30 [v] = some y) : ∃ x : Hd, v = .slice x.a x.r.length x.cap ∧ Raw W x ∧ (x.a = none → x.cap = 0) ∧ ∀ u ∈ x.r, u.Ok := by
  obtain ⟨a, len, cap, rfl⟩ : ∃ a len cap, v = .slice a len cap := by
    rcases Go.Deep.open_slice Try.underlying30 h with ⟨hcs, _⟩ | ⟨x, l, c, m, n, D, Pl, hcs, _⟩
    · exact ⟨_, _, _, by simpa using hcs⟩
    · exact ⟨_, _, _, by simpa using hcs⟩
  obtain ⟨h1, h2, h3⟩ := slice_of Try.underlying30 k47 (by omega) h
  obtain ⟨r, hr, hP⟩ := list_of (P := fun j (u : M.V) => ∃ b o, a = some ⟨b, o, none⟩ ∧ (∀ (i : Nat) v, (cells4 u)[i]? = some v → W.cell? ⟨b, o + j * 4 + i, none⟩ = some v) ∧ u.Ok ∧ u.t.length ≤ maxLen) len (fun j hj => by
    obtain ⟨b, o, e, cs, n, y', hl, hc, ht⟩ := h3 j hj
    obtain ⟨u, rfl, hu, hut⟩ := val_of hl ht
    exact ⟨u, b, o, e, hc, hu, hut⟩)
  subst hr
  refine ⟨⟨a, cap, r⟩, rfl, ⟨fun j u hj => ?_, h2, fun u hu => ?_⟩, h1, fun u hu => ?_⟩
  · obtain ⟨b, o, e, hc, _⟩ := hP j u hj
    exact ⟨b, o, e, hc 0 _ rfl, hc 1 _ rfl, hc 2 _ rfl, hc 3 _ rfl⟩
  · obtain ⟨k, hk, ek⟩ := List.getElem_of_mem hu
    obtain ⟨b, o, e, hc, _, ht⟩ := hP k u (by rw [List.getElem?_eq_getElem hk, ek])
    exact ht
  · obtain ⟨k, hk, ek⟩ := List.getElem_of_mem hu
    obtain ⟨b, o, e, hc, ho, _⟩ := hP k u (by rw [List.getElem?_eq_getElem hk, ek])
    exact ho
/-- A list of rows that came in. -/
theorem rows_at {H : Type} {enc : TypeId × Value → H} {W : World} {a : Option Addr} {len cap : Nat} {d : DataW H} {p : List MemPlace} (h : DataW.Trod enc Try.prog W 0 (fun _ => true) true 22 (.slice a len cap) d p) : ∃ l : List Hd, len = l.length ∧ Ins22 W a cap l := by
  obtain ⟨fuel, hf⟩ := h
  have hf : DataW.trod enc Try.prog W 0 (fun _ => true) true fuel 22 [.slice a len cap] = some (d, p) := by simpa [Value.cells] using hf
  obtain ⟨h1, h2, h3⟩ := slice_of Try.underlying22 k30 (by omega) hf
  obtain ⟨l, hl, hP⟩ := list_of (P := fun j (x : Hd) => (∃ b o, a = some ⟨b, o, none⟩ ∧ W.cell? ⟨b, o + j, none⟩ = some (.slice x.a x.r.length x.cap)) ∧ Raw W x ∧ (x.a = none → x.cap = 0) ∧ ∀ u ∈ x.r, u.Ok) len (fun j hj => by
    obtain ⟨b, o, e, cs, n, y', hl, hc, ht⟩ := h3 j hj
    match cs, hl with
    | [v], _ =>
    obtain ⟨x, rfl, hx⟩ := row_of ht
    have := hc 0 _ rfl
    rw [Nat.mul_one, Nat.add_zero] at this
    exact ⟨x, ⟨b, o, e, this⟩, hx⟩)
  have mem : ∀ x ∈ l, ∃ k, l[k]? = some x := fun x hx => by
    obtain ⟨k, hk, ek⟩ := List.getElem_of_mem hx
    exact ⟨k, by rw [List.getElem?_eq_getElem hk, ek]⟩
  subst hl
  exact ⟨l, rfl, fun j x hj => (hP j x hj).1, h1, h2, fun x hx => by obtain ⟨k, hk⟩ := mem x hx; exact (hP k x hk).2.1, fun x hx => by obtain ⟨k, hk⟩ := mem x hx; exact (hP k x hk).2.2.1, fun x hx => by obtain ⟨k, hk⟩ := mem x hx; exact (hP k x hk).2.2.2⟩
/-- A row that came in, alone. -/
theorem row_at {H : Type} {enc : TypeId × Value → H} {W : World} {v : Value} {d : DataW H} {p : List MemPlace} {a : Option Addr} {len cap : Nat} (hv : v = .slice a len cap) (h : DataW.Trod enc Try.prog W 0 (fun _ => true) true 30 v d p) : ∃ x : Hd, v = .slice x.a x.r.length x.cap ∧ Raw W x ∧ (x.a = none → x.cap = 0) ∧ ∀ u ∈ x.r, u.Ok := by
  obtain ⟨fuel, hf⟩ := h
  subst hv
  have hf : DataW.trod enc Try.prog W 0 (fun _ => true) true fuel 30 [.slice a len cap] = some (d, p) := by simpa [Value.cells] using hf
  exact row_of hf
/-- An order that came in. -/
theorem keys_at {H : Type} {enc : TypeId × Value → H} {W : World} {a : Option Addr} {len cap : Nat} {d : DataW H} {p : List MemPlace} (h : DataW.Trod enc Try.prog W 0 (fun _ => true) true 23 (.slice a len cap) d p) : ∃ o : List (Int × Bool), len = o.length ∧ KAt W a o ∧ len ≤ maxLen := by
  obtain ⟨fuel, hf⟩ := h
  have hf : DataW.trod enc Try.prog W 0 (fun _ => true) true fuel 23 [.slice a len cap] = some (d, p) := by simpa [Value.cells] using hf
  obtain ⟨_, h2, h3⟩ := slice_of Try.underlying23 k44 (by omega) hf
  obtain ⟨l, hl, hP⟩ := list_of (P := fun j (k : Int × Bool) => ∃ b off, a = some ⟨b, off, none⟩ ∧ W.cell? ⟨b, off + j * 2, none⟩ = some (.int .i64 k.1) ∧ W.cell? ⟨b, off + j * 2 + 1, none⟩ = some (.bool k.2)) len (fun j hj => by
    obtain ⟨b, o, e, cs, n, y', hl, hc, ht⟩ := h3 j hj
    match cs, hl with
    | [c0, c1], _ =>
    obtain ⟨xs, k, _, _, hl2, hxl, hg⟩ := DataW.trod_struct Try.underlying44 ht
    match xs, hxl with
    | [y0, y1], _ =>
    have g0 := hg 0 _ rfl
    have g1 := hg 1 _ rfl
    simp [k3] at g0
    simp [k4] at g1
    obtain ⟨z, e0, _, _⟩ := DataW.trod_int Try.underlying3 g0
    obtain ⟨q, e1, _⟩ := DataW.trod_bool Try.underlying4 g1
    simp at e0 e1
    subst e0 e1
    exact ⟨(z, q), b, o, e, hc 0 _ rfl, hc 1 _ rfl⟩)
  subst hl
  exact ⟨l, rfl, fun j k hj => hP j k hj, h2⟩
end Go.Proofs.Ytkkmbpcmkhikkaa
