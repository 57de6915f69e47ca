/- Texts put together: WNums, WActs. -/
import Derived.Test.YtllkplanjfnnmaaGreatDoorQ43
import Derived.Test.YtllkplanjfnnmaaGreatDoorQ28
import Derived.Test.YtllkplanjfnnmaaGreatDoorQ14
import Derived.Lib.SmallJoins
import Derived.Deep.Grids
/- Numbers that came in. -/
namespace Go.Proofs.YtllkplanjfnnmaaGreatDoor
open Go.ChangeShapes Go.WideShapes Go.ChangeAt Go.RowKit
set_option maxRecDepth 100000 in
theorem c3 : Tryz.prog.cellsOf 3 = 1 := by kernel_rfl
end Go.Proofs.YtllkplanjfnnmaaGreatDoor

/- Calls of a law that came in: where they lie. -/
namespace Go.Proofs.YtllkplanjfnnmaaGreatDoor
open Go.ChangeShapes Go.WideShapes Go.ChangeAt Go.RowKit Go.Joins
/-- A call's cells. -/
def actC (k0 n0 p0 : Int) (c : UInt8) (ka : Option Addr) (kn kc : Nat) (torn at_ : Int) : List Value :=
  [.int .i64 k0, .int .i64 n0, .int .i64 p0, .int .u8 (c.toNat : Int), .slice ka kn kc, .int .i64 torn, .int .i64 at_]
theorem one_actC (k0 n0 p0 : Int) (c : UInt8) (ka : Option Addr) (kn kc : Nat) (torn at_ : Int) : ∀ u ∈ actC k0 n0 p0 c ka kn kc torn at_, u.oneCell' = true := fun u hu => by
  simp only [actC, List.mem_cons, List.not_mem_nil, or_false] at hu
  rcases hu with rfl | rfl | rfl | rfl | rfl | rfl | rfl <;> rfl
/-- What is told of the calls: where they lie. -/
def ActsAt (w : World) (a : Option Addr) (len : Nat) : Prop := len ≤ 9223372036854775807 ∧ ∀ j, j < len → ∃ b o k0 n0 p0 c ka kc ks torn at_, a = some ⟨b, o, none⟩ ∧
  w.rangeAt b (o + j * 7) (actC k0 n0 p0 c ka (List.length ks) kc torn at_) ∧ KeptAt w ka ks ∧ ks.length ≤ 9223372036854775807 ∧ (n0 ≤ 9223372036854775807 ∧ -9223372036854775808 ≤ n0)
set_option maxRecDepth 100000 in
theorem zeroAct (w : World) : (zeroValue 42).run Tryz.prog w = .ok (.agg #[.int .i64 0, .int .i64 0, .int .i64 0, .int .u8 0, .slice none 0 0, .int .i64 0, .int .i64 0]) w := by kernel_rfl
set_option maxRecDepth 100000 in
theorem infoAct : (Tryz.prog.info? 42).map (·.size) = some 7 := by kernel_rfl
set_option maxRecDepth 100000 in
/-- Out of the reading: where a slice's truths lie. -/
theorem bools_at {H : Type} {enc : TypeId × Value → H} {W : World} {v : Value} {n : Nat} {y : DataW H × List MemPlace} (h : DataW.trod enc Tryz.prog W 0 (fun _ => true) true n 38 [v] = some y) :
    ∃ ka kc ks, v = .slice ka (List.length ks) kc ∧ KeptAt W ka ks ∧ ks.length ≤ 9223372036854775807 := by
  rcases Go.Deep.open_bools Tryz.underlying38 Tryz.underlying4 (by kernel_rfl) h with ⟨hcs, _⟩ | ⟨a, len, cap, B, hcs, _, hl, hm, _, hcell⟩
  · simp at hcs
    subst hcs
    exact ⟨none, 0, [], rfl, fun j hj => absurd hj (by simp), by simp⟩
  · simp at hcs
    subst hcs
    refine ⟨some a, cap, (List.range len).map B, by simp, fun j hj => ?_, by unfold maxLen at hm; simp; omega⟩
    have hj' : j < len := by simpa using hj
    obtain ⟨b, o, sp⟩ := a
    have hc := hcell j (by omega)
    have hsp : sp = none := by
      have hc0 := hcell 0 (by omega)
      have : (⟨b, o, sp⟩ : Addr).add 0 = ⟨b, o, sp⟩ := rfl
      rw [this] at hc0
      cases sp with
      | none => rfl
      | some q => simp [World.cell?] at hc0; split at hc0 <;> simp at hc0
    subst hsp
    exact ⟨b, o, rfl, by rw [← Addr.add_mid, hc]; simp⟩
set_option maxRecDepth 100000 in
/-- Out of the reading: a loss. -/
theorem loss_of {H : Type} {enc : TypeId × Value → H} {W : World} {n : Nat} {cs : List Value} {y : DataW H × List MemPlace} (h : DataW.trod enc Tryz.prog W 0 (fun _ => true) true n 40 cs = some y) :
    ∃ ka kc ks torn at_, cs = [.slice ka (List.length ks) kc, .int .i64 torn, .int .i64 at_] ∧ KeptAt W ka ks ∧ ks.length ≤ 9223372036854775807 := by
  obtain ⟨ys, m, _, _, hl, hyl, hg⟩ := DataW.trod_struct Tryz.underlying40 h
  have cL : Tryz.prog.cellsOf 40 = 3 := by kernel_rfl
  have c3' : Tryz.prog.cellsOf 3 = 1 := by kernel_rfl
  have cB : Tryz.prog.cellsOf 38 = 1 := by kernel_rfl
  rw [cL] at hl
  match ys, hyl, cs, hl with
  | [z0, z1, z2], _, [v0, v1, v2], _ =>
    have q0 := hg 0 _ rfl
    have q1 := hg 1 _ rfl
    have q2 := hg 2 _ rfl
    simp [cB] at q0
    simp [c3'] at q1 q2
    obtain ⟨ka, kc, ks, e5, hk, hkn⟩ := bools_at q0
    obtain ⟨torn, e6, _, _⟩ := DataW.trod_int Tryz.underlying3 q1
    obtain ⟨at_, e7, _, _⟩ := DataW.trod_int Tryz.underlying3 q2
    refine ⟨ka, kc, ks, torn, at_, ?_, hk, hkn⟩
    simp at e5 e6 e7
    rw [e5, e6, e7]
set_option maxRecDepth 100000 in
/-- Out of the reading: a loss that came in. -/
theorem loss_at {H : Type} {enc : TypeId × Value → H} {W : World} {base : Nat} {v : Value} {d : DataW H} {p : List MemPlace} (hval : Value.okWide Tryz.prog W .any base 40 v) (h : DataW.Trod enc Tryz.prog W 0 (fun _ => true) true 40 v d p) : ∃ ka kc ks torn at_, v = .agg #[.slice ka (List.length ks) kc, .int .i64 torn, .int .i64 at_] ∧ KeptAt W ka ks ∧ ks.length ≤ 9223372036854775807 := by
  obtain ⟨cs, rfl, _⟩ := okWide_struct Tryz.underlying40 hval
  obtain ⟨l⟩ := cs
  obtain ⟨fuel, hf⟩ := h
  obtain ⟨ka, kc, ks, torn, at_, e, hk, hkn⟩ := loss_of hf
  simp only [Value.cells] at e
  exact ⟨ka, kc, ks, torn, at_, by rw [e], hk, hkn⟩
set_option maxRecDepth 100000 in
/-- Out of the reading: a call's cells. -/
theorem act_of {H : Type} {enc : TypeId × Value → H} {W : World} {n : Nat} {cs : List Value} {y : DataW H × List MemPlace} (h : DataW.trod enc Tryz.prog W 0 (fun _ => true) true n 42 cs = some y) :
    ∃ k0 n0 p0 c ka kc ks torn at_, cs = actC k0 n0 p0 c ka (List.length ks) kc torn at_ ∧ KeptAt W ka ks ∧ ks.length ≤ 9223372036854775807 ∧ (n0 ≤ 9223372036854775807 ∧ -9223372036854775808 ≤ n0) := by
  obtain ⟨xs, k, _, _, hl, hxl, hf⟩ := DataW.trod_struct Tryz.underlying42 h
  have cA : Tryz.prog.cellsOf 42 = 7 := by kernel_rfl
  have c3' : Tryz.prog.cellsOf 3 = 1 := by kernel_rfl
  have c5' : Tryz.prog.cellsOf 5 = 1 := by kernel_rfl
  have cL : Tryz.prog.cellsOf 40 = 3 := by kernel_rfl
  rw [cA] at hl
  match xs, hxl, cs, hl with
  | [y0, y1, y2, y3, y4], _, [v0, v1, v2, v3, v4, v5, v6], _ =>
    have g0 := hf 0 _ rfl
    have g1 := hf 1 _ rfl
    have g2 := hf 2 _ rfl
    have g3 := hf 3 _ rfl
    have g4 := hf 4 _ rfl
    simp [c3'] at g0 g1 g2
    simp [c5'] at g3
    simp [cL] at g4
    obtain ⟨k0, e0, _, _⟩ := DataW.trod_int Tryz.underlying3 g0
    obtain ⟨n0, e1, _, w1⟩ := DataW.trod_int Tryz.underlying3 g1
    obtain ⟨p0, e2, _, _⟩ := DataW.trod_int Tryz.underlying3 g2
    obtain ⟨z, e3, _, w3⟩ := DataW.trod_int Tryz.underlying5 g3
    obtain ⟨ka, kc, ks, torn, at_, e4, hk, hkn⟩ := loss_of g4
    have hz : 0 ≤ z ∧ z < 256 := by
      have := bounds_u8 w3
      omega
    have hc : z = ((UInt8.ofNat z.toNat).toNat : Int) := by
      have : (UInt8.ofNat z.toNat).toNat = z.toNat := by simp; omega
      rw [this]; omega
    have wb := bounds_i64 w1
    refine ⟨k0, n0, p0, UInt8.ofNat z.toNat, ka, kc, ks, torn, at_, ?_, hk, hkn, wb.2, wb.1⟩
    simp at e0 e1 e2 e3 e4
    rw [e0, e1, e2, e3, e4.1, e4.2.1, e4.2.2]
    unfold actC
    rw [← hc]
set_option maxRecDepth 100000 in
/-- Out of the reading: where the calls lie. -/
theorem acts_at {H : Type} {enc : TypeId × Value → H} {W : World} {a1 : Option Addr} {len1 cap1 : Nat} {d1 : DataW H} {p1 : List MemPlace} (h1 : DataW.Trod enc Tryz.prog W 0 (fun _ => true) true 22 (.slice a1 len1 cap1) d1 p1) : ActsAt W a1 len1 := by
  obtain ⟨fuel, hf⟩ := h1
  have cA : Tryz.prog.cellsOf 42 = 7 := by kernel_rfl
  rcases Go.Deep.open_slice Tryz.underlying22 hf with ⟨hcs, _⟩ | ⟨x, l, c, m, n, D, Pl, hcs, _, hl, hm, hmm, _, hx⟩
  · simp [Value.cells] at hcs
    obtain ⟨rfl, rfl, rfl⟩ := hcs
    exact ⟨by omega, fun j hj => absurd hj (by omega)⟩
  · simp [Value.cells] at hcs
    obtain ⟨rfl, rfl, rfl⟩ := hcs
    simp at hmm
    subst hmm
    refine ⟨by unfold maxLen at hm; omega, fun j hj => ?_⟩
    obtain ⟨b, o, sp⟩ := x
    have hsp : sp = none := by
      obtain ⟨cs0, k1, _⟩ := hx 0 (by omega)
      obtain ⟨_, hlen0, hcell0⟩ := World.cells?_some k1
      rw [cA] at hcell0 hlen0
      have hc0 := hcell0 0 (by omega)
      have e1 : ((⟨b, o, sp⟩ : Addr).add (0 * 7)).add 0 = ⟨b, o, sp⟩ := rfl
      rw [e1] at hc0
      cases sp with
      | none => rfl
      | some q =>
        rw [List.getElem?_eq_getElem (by omega)] at hc0
        simp [World.cell?] at hc0; split at hc0 <;> simp at hc0
    subst hsp
    obtain ⟨cs', k1, k2⟩ := hx j (by omega)
    rw [cA] at k1
    obtain ⟨_, hlen, hcell⟩ := World.cells?_some k1
    obtain ⟨k0, n0, p0, cc, ka, kc, ks, torn, at_, rfl, hk, hkn, hn0⟩ := act_of k2
    refine ⟨b, o, k0, n0, p0, cc, ka, kc, ks, torn, at_, rfl, fun i v hv => ?_, hk, hkn, hn0⟩
    have hi : i < 7 := (List.getElem?_eq_some_iff.1 hv).1
    have := hcell i hi
    rw [Addr.add_mid, Addr.add_mid, hv] at this
    exact this
end Go.Proofs.YtllkplanjfnnmaaGreatDoor
