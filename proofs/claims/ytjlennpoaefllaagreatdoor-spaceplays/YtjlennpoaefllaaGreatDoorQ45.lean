/- Texts put together: GActs, KMade. -/
import Derived.Test.YtjlennpoaefllaaGreatDoorQ44
import Derived.Test.YtjlennpoaefllaaGreatDoorQ06
import Derived.Lib.SmallJoins
import Derived.Deep.Grids
import Derived.Test.YtjlennpoaefllaaGreatDoorQ37
import Derived.Test.YtjlennpoaefllaaGreatDoorQ40
/- Acts of a law that came in: where they lie. -/
namespace Go.Proofs.YtjlennpoaefllaaGreatDoor
open Go.ChangeShapes Go.WideShapes Go.ChangeAt Go.RowKit Go.Joins
set_option maxRecDepth 100000 in
/-- A slice that came in: its elements' cells. -/
theorem slice_ofG {H : Type} {enc : TypeId × Value → H} {W : World} {t e size fuel : Nat} {a : Option Addr} {len cap : Nat} {y : DataW H × List MemPlace} (ht : Tryz.prog.underlying t = some (.slice e)) (hsz : Tryz.prog.cellsOf e = size) (hp : 0 < size) (h : DataW.trod enc Tryz.prog W 0 (fun _ => true) true fuel t [.slice a len cap] = some y) :
    (a = none → cap = 0) ∧ len ≤ maxLen ∧ ∀ j, j < len → ∃ b o, a = some ⟨b, o, none⟩ ∧ ∃ cs n y', cs.length = size ∧ (∀ (i : Nat) v, cs[i]? = some v → W.cell? ⟨b, o + j * size + i, none⟩ = some v) ∧ DataW.trod enc Tryz.prog W 0 (fun _ => true) true n e cs = some y' := by
  rcases Go.Deep.open_slice ht h with ⟨hcs, _⟩ | ⟨x, l, c, m, n, D, Pl, hcs, _, hl, hm, hmm, _, hx⟩
  · simp at hcs
    obtain ⟨rfl, rfl, rfl⟩ := hcs
    exact ⟨fun _ => rfl, Nat.zero_le _, fun j hj => absurd hj (by omega)⟩
  · simp at hcs
    obtain ⟨rfl, rfl, rfl⟩ := hcs
    simp at hmm
    subst hmm
    refine ⟨fun e => (by cases e), by omega, fun j hj => ?_⟩
    rw [hsz] at hx
    obtain ⟨b, o, sp⟩ := x
    have hsp : sp = none := by
      obtain ⟨cs0, k1, _⟩ := hx 0 (by omega)
      obtain ⟨_, hlen0, hcell0⟩ := World.cells?_some k1
      have hc0 := hcell0 0 (by omega)
      rw [Nat.zero_mul] at hc0
      have e1 : ((⟨b, o, sp⟩ : Addr).add 0).add 0 = ⟨b, o, sp⟩ := rfl
      rw [e1] at hc0
      cases sp with
      | none => rfl
      | some q =>
        rw [List.getElem?_eq_getElem (by omega)] at hc0
        simp [World.cell?] at hc0; split at hc0 <;> simp at hc0
    subst hsp
    obtain ⟨cs', k1, k2⟩ := hx j (by omega)
    obtain ⟨_, hlen, hcell⟩ := World.cells?_some k1
    refine ⟨b, o, rfl, cs', n, _, hlen, fun i v hv => ?_, k2⟩
    have hi : i < size := by rw [← hlen]; exact (List.getElem?_eq_some_iff.1 hv).1
    have := hcell i hi
    rw [Addr.add_mid, Addr.add_mid, hv] at this
    exact this
set_option maxRecDepth 100000 in
theorem bytes_ofG {H : Type} {enc : TypeId × Value → H} {W : World} {fuel : Nat} {v : Value} {y : DataW H × List MemPlace} (h : DataW.trod enc Tryz.prog W 0 (fun _ => true) true fuel 43 [v] = some y) : ∃ a bs cap, v = .slice a (List.length bs) cap ∧ At W a bs ∧ bs.length ≤ cap ∧ bs.length ≤ 9223372036854775807 ∧ (a = none → cap = 0) := by
  have key : ∃ a len cap, v = .slice a len cap := by
    rcases Go.Deep.open_slice Tryz.underlying43 h with ⟨hcs, _⟩ | ⟨x, l, c, m, n, D, Pl, hcs, _⟩
    · simp at hcs
      exact ⟨none, 0, 0, hcs⟩
    · simp at hcs
      exact ⟨some x, l, c, hcs⟩
  obtain ⟨a, len, cap, rfl⟩ := key
  obtain ⟨bs, rfl, h1, h0, h2, h3⟩ := bytes_at (H := H) (enc := enc) (W := W) (a := a) (len := len) (cap := cap) (d := y.1) (p := y.2) ⟨fuel, by simpa [Value.cells] using h⟩
  exact ⟨a, bs, cap, rfl, h1, h2, by unfold maxLen at h3; omega, h0⟩
/-- An act's cells. -/
def act12C (k no : Int) (fa : Option Addr) (fn fc : Nat) : List Value := [.int .i64 k, .int .i64 no, .slice fa fn fc]
/-- An act that lies at a place. -/
def Act12At (w : World) (a : Option Addr) (j : Nat) : Prop := ∃ b o k0 no fa fc bs, a = some ⟨b, o, none⟩ ∧
  w.rangeAt b (o + j * 3) (act12C k0 no fa (List.length bs) fc) ∧ (At w fa bs ∧ bs.length ≤ fc ∧ bs.length ≤ 9223372036854775807 ∧ (fa = none → fc = 0)) ∧ (-9223372036854775808 ≤ no ∧ no ≤ 9223372036854775807)
/-- What is told of the acts: where they lie. -/
def Acts12 (w : World) (a : Option Addr) (len : Nat) : Prop := len ≤ 9223372036854775807 ∧ ∀ j, j < len → Act12At w a j
set_option maxRecDepth 100000 in
theorem infoAct12 : (Tryz.prog.info? 45).map (·.size) = some 3 := by kernel_rfl
set_option maxRecDepth 100000 in
theorem act12_of {H : Type} {enc : TypeId × Value → H} {W : World} {n : Nat} {cs : List Value} {y : DataW H × List MemPlace} (h : DataW.trod enc Tryz.prog W 0 (fun _ => true) true n 45 cs = some y) :
    ∃ k0 no fa fc bs, cs = act12C k0 no fa (List.length bs) fc ∧ (At W fa bs ∧ bs.length ≤ fc ∧ bs.length ≤ 9223372036854775807 ∧ (fa = none → fc = 0)) ∧ (-9223372036854775808 ≤ no ∧ no ≤ 9223372036854775807) := by
  obtain ⟨xs, k, _, _, hl, hxl, hf⟩ := DataW.trod_struct Tryz.underlying45 h
  have cA : Tryz.prog.cellsOf 45 = 3 := by kernel_rfl
  have c3' : Tryz.prog.cellsOf 3 = 1 := by kernel_rfl
  have cU : Tryz.prog.cellsOf 43 = 1 := by kernel_rfl
  rw [cA] at hl
  match xs, hxl, cs, hl with
  | [y0, y1, y2], _, [v0, v1, v2], _ =>
    have g0 := hf 0 _ rfl
    have g1 := hf 1 _ rfl
    have g2 := hf 2 _ rfl
    simp [c3'] at g0 g1
    simp [cU] at g2
    obtain ⟨k0, e0, _, _⟩ := DataW.trod_int Tryz.underlying3 g0
    obtain ⟨no, e1, _, w1⟩ := DataW.trod_int Tryz.underlying3 g1
    obtain ⟨fa, bs, fc, e4, hfx⟩ := bytes_ofG g2
    have wb := bounds_i64 w1
    refine ⟨k0, no, fa, fc, bs, ?_, hfx, wb⟩
    simp at e0 e1 e4
    rw [e0, e1, e4]
    rfl
set_option maxRecDepth 100000 in
theorem acts12_at {H : Type} {enc : TypeId × Value → H} {W : World} {a1 : Option Addr} {len1 cap1 : Nat} {d1 : DataW H} {p1 : List MemPlace} (h1 : DataW.Trod enc Tryz.prog W 0 (fun _ => true) true 22 (.slice a1 len1 cap1) d1 p1) : Acts12 W a1 len1 := by
  obtain ⟨fuel, hf⟩ := h1
  have hf : DataW.trod enc Tryz.prog W 0 (fun _ => true) true fuel 22 [.slice a1 len1 cap1] = some (d1, p1) := by simpa [Value.cells] using hf
  obtain ⟨_, h2, h3⟩ := slice_ofG Tryz.underlying22 (show Tryz.prog.cellsOf 45 = 3 by kernel_rfl) (by omega) hf
  refine ⟨by unfold maxLen at h2; omega, fun j hj => ?_⟩
  obtain ⟨b, o, e, cs, n, y', hl, hc, ht⟩ := h3 j hj
  obtain ⟨k0, no, fa, fc, bs, rfl, q1, q2⟩ := act12_of ht
  exact ⟨b, o, k0, no, fa, fc, bs, e, fun i v hv => hc i v hv, q1, q2⟩
end Go.Proofs.YtjlennpoaefllaaGreatDoor

/- A space on both sides. -/
namespace Go.Proofs.YtjlennpoaefllaaGreatDoor
open Go.RowKit

set_option maxRecDepth 100000 in
theorem pd_new0 {w w1 w2 : World} {p hb r : Nat} {n : Int} (hp : w.heap.size ≤ p) (hhb : w.heap.size ≤ hb) (hd : IsDisk w1 w.heap.size p hb (.slice none 0 0) (dSt.new n)) (hA : Adds w w1) (h2 : ∃ OR, IsRO w2 OR r (dSt.new n) ∧ (∀ k, OR k → w1.heap.size ≤ k ∧ k < w2.heap.size) ∧ Adds w1 w2) :
    PdE11 w w2 [] p r (dSt.new n) (dSt.new n) := by
  obtain ⟨OR, b1, b2, b3⟩ := h2
  have q1 := (Array.getElem?_eq_some_iff.1 hd.box).1
  obtain ⟨es, cl, q2, _⟩ := hd.held
  have q2 := (Array.getElem?_eq_some_iff.1 q2).1
  have z1 := hA.size
  have z2 := b3.size
  have od : ∀ k, (k = p ∨ k = hb) → w.heap.size ≤ k ∧ k < w1.heap.size := fun k c => by rcases c with rfl | rfl <;> omega
  refine ⟨fun k => k = p ∨ k = hb, OR, (show IsDO w1 (fun k => k = p ∨ k = hb) p (dSt.new n) from ⟨hb, _, hd.mono (Nat.zero_le _), .inl rfl, .inr rfl, fun k hk => (by cases hk)⟩).adds b3, b1, fun k c c' => ?_, fun k c => ?_, fun k c => ?_, hA.trans b3, fun x hx => by cases hx⟩
  · have := od k c; have := b2 k c'; omega
  · rcases c with c | c
    · exact (od k c).1
    · have := b2 k c; omega
  · rcases c with c | c
    · have := od k c; omega
    · exact (b2 k c).2
/-- A state of a pool that was formatted. -/
def S0 (c m : Nat) : F.Po := G.S1 c m (G.first c 0) true false []
theorem nil0 (fr ct mo : Int) : F.Nil ⟨fr, ct, mo, []⟩ := fun f hf => by cases hf
end Go.Proofs.YtjlennpoaefllaaGreatDoor
