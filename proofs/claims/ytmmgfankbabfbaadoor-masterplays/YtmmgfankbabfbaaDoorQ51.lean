/- Acts of a law that came in: where they lie. -/
import Derived.Test.YtmmgfankbabfbaaDoorQ32
import Derived.Test.YtmmgfankbabfbaaDoorQ35
import Derived.Test.YtmmgfankbabfbaaDoorQ30
import Derived.Lib.SmallJoins
import Derived.Deep.Grids
namespace Go.Proofs.YtmmgfankbabfbaaDoor
open Go.ChangeShapes Go.WideShapes Go.ChangeAt Go.RowKit Go.Joins
/-- An act's cells. -/
def act10C (k n p : Int) (fa : Option Addr) (fn fc : Nat) (c : UInt8) (ka : Option Addr) (kn kc : Nat) (torn at_ : Int) : List Value :=
  [.int .i64 k, .int .i64 n, .int .i64 p, .slice fa fn fc, .int .u8 (c.toNat : Int), .slice ka kn kc, .int .i64 torn, .int .i64 at_]
/-- What is told of the acts: where they lie. -/
def Acts10 (w : World) (a : Option Addr) (len : Nat) : Prop := len ≤ 9223372036854775807 ∧ ∀ j, j < len → ∃ b o k0 n0 p0 fx c ka kc ks torn at_, a = some ⟨b, o, none⟩ ∧
  w.rangeAt b (o + j * 8) (act10C k0 n0 p0 (NPart.a fx) (List.length (NPart.ns fx)) (NPart.cap fx) c ka (List.length ks) kc torn at_) ∧ (NQ w (fun k => k < w.heap.size) fx ∧ (∀ n ∈ fx.ns, n < 18446744073709551616) ∧ fx.ns.length ≤ 9223372036854775807 ∧ fx.ns.length ≤ fx.cap) ∧ KeptAt w ka ks ∧ ks.length ≤ 9223372036854775807 ∧ n0 ≤ 9223372036854775807
set_option maxRecDepth 100000 in
theorem infoAct10 : (Tryd.prog.info? 43).map (·.size) = some 8 := by kernel_rfl
set_option maxRecDepth 100000 in
theorem u64s_ofC {H : Type} {enc : TypeId × Value → H} {W : World} {fuel : Nat} {v : Value} {y : DataW H × List MemPlace} (h : DataW.trod enc Tryd.prog W 0 (fun _ => true) true fuel 38 [v] = some y) : ∃ x : NPart, v = .slice x.a x.ns.length x.cap ∧ NQ W (fun k => k < W.heap.size) x ∧ (∀ n ∈ x.ns, n < 18446744073709551616) ∧ x.ns.length ≤ 9223372036854775807 ∧ x.ns.length ≤ x.cap := by
  obtain ⟨x, rfl, h1, h2, h3⟩ := u64s_of h
  refine ⟨x, rfl, h1, h2, h3, ?_⟩
  rcases Go.Deep.open_slice Tryd.underlying38 h with ⟨hcs, _⟩ | ⟨x', l, c, m, n, D, Pl, hcs, _, hl, _⟩
  · simp at hcs
    rw [hcs.2.1]
    exact Nat.zero_le _
  · simp at hcs
    rw [hcs.2.1, hcs.2.2]
    exact hl
set_option maxRecDepth 100000 in
theorem act10_of {H : Type} {enc : TypeId × Value → H} {W : World} {n : Nat} {cs : List Value} {y : DataW H × List MemPlace} (h : DataW.trod enc Tryd.prog W 0 (fun _ => true) true n 43 cs = some y) :
    ∃ k0 n0 p0 fx c ka kc ks torn at_, cs = act10C k0 n0 p0 (NPart.a fx) (List.length (NPart.ns fx)) (NPart.cap fx) c ka (List.length ks) kc torn at_ ∧ (NQ W (fun k => k < W.heap.size) fx ∧ (∀ n ∈ fx.ns, n < 18446744073709551616) ∧ fx.ns.length ≤ 9223372036854775807 ∧ fx.ns.length ≤ fx.cap) ∧ KeptAt W ka ks ∧ ks.length ≤ 9223372036854775807 ∧ n0 ≤ 9223372036854775807 := by
  obtain ⟨xs, k, _, _, hl, hxl, hf⟩ := DataW.trod_struct Tryd.underlying43 h
  have cA : Tryd.prog.cellsOf 43 = 8 := by kernel_rfl
  have c3' : Tryd.prog.cellsOf 3 = 1 := by kernel_rfl
  have c5' : Tryd.prog.cellsOf 5 = 1 := by kernel_rfl
  have cU : Tryd.prog.cellsOf 38 = 1 := by kernel_rfl
  have cL : Tryd.prog.cellsOf 41 = 3 := by kernel_rfl
  rw [cA] at hl
  match xs, hxl, cs, hl with
  | [y0, y1, y2, y3, y4, y5], _, [v0, v1, v2, v3, v4, v5, v6, v7], _ =>
    have g0 := hf 0 _ rfl
    have g1 := hf 1 _ rfl
    have g2 := hf 2 _ rfl
    have g3 := hf 3 _ rfl
    have g4 := hf 4 _ rfl
    have g5 := hf 5 _ rfl
    simp [c3'] at g0 g1 g2
    simp [cU] at g3
    simp [c5'] at g4
    simp [cL] at g5
    obtain ⟨k0, e0, _, _⟩ := DataW.trod_int Tryd.underlying3 g0
    obtain ⟨n0, e1, _, w1⟩ := DataW.trod_int Tryd.underlying3 g1
    obtain ⟨p0, e2, _, _⟩ := DataW.trod_int Tryd.underlying3 g2
    obtain ⟨fx, e3, hfx⟩ := u64s_ofC g3
    obtain ⟨z, e4, _, w4⟩ := DataW.trod_int Tryd.underlying5 g4
    obtain ⟨ka, kc, ks, torn, at_, e5, hk, hkn⟩ := loss_ofU g5
    have hz : 0 ≤ z ∧ z < 256 := by
      have := bounds_u8 w4
      omega
    have hc : z = ((UInt8.ofNat z.toNat).toNat : Int) := by
      have : (UInt8.ofNat z.toNat).toNat = z.toNat := by simp; omega
      rw [this]; omega
    have wb := bounds_i64 w1
    refine ⟨k0, n0, p0, fx, UInt8.ofNat z.toNat, ka, kc, ks, torn, at_, ?_, hfx, hk, hkn, wb.2⟩
    simp at e0 e1 e2 e3 e4 e5
    rw [e0, e1, e2, e3, e4, e5.1, e5.2.1, e5.2.2]
    unfold act10C
    rw [← hc]
set_option maxRecDepth 100000 in
theorem acts10_at {H : Type} {enc : TypeId × Value → H} {W : World} {a1 : Option Addr} {len1 cap1 : Nat} {d1 : DataW H} {p1 : List MemPlace} (h1 : DataW.Trod enc Tryd.prog W 0 (fun _ => true) true 22 (.slice a1 len1 cap1) d1 p1) : Acts10 W a1 len1 := by
  obtain ⟨fuel, hf⟩ := h1
  have hf : DataW.trod enc Tryd.prog W 0 (fun _ => true) true fuel 22 [.slice a1 len1 cap1] = some (d1, p1) := by simpa [Value.cells] using hf
  obtain ⟨_, h2, h3⟩ := slice_ofU Tryd.underlying22 (show Tryd.prog.cellsOf 43 = 8 by kernel_rfl) (by omega) hf
  refine ⟨by unfold maxLen at h2; omega, fun j hj => ?_⟩
  obtain ⟨b, o, e, cs, n, y', hl, hc, ht⟩ := h3 j hj
  obtain ⟨k0, n0, p0, fx, c, ka, kc, ks, torn, at_, rfl, q1, q2, q3, q4⟩ := act10_of ht
  exact ⟨b, o, k0, n0, p0, fx, c, ka, kc, ks, torn, at_, e, fun i v hv => hc i v hv, q1, q2, q3, q4⟩
end Go.Proofs.YtmmgfankbabfbaaDoor
