/- Texts put together: Base, Base2, FActs. -/
import Derived.Test.YtjbdchgadfhffaaGreatDoorRows
import Derived.Test.YtjbdchgadfhffaaGreatDoorQ26
import Derived.ProofKit
import Derived.LaidMore
import Derived.OpenShut
import Derived.Stop.Joined
import Derived.Lib.LaidTab
import Derived.Test.YtjbdchgadfhffaaGreatDoorQ06
import Derived.Test.YtjbdchgadfhffaaGreatDoorQ12
import Derived.Lib.SmallJoins
import Derived.Deep.Grids
/- What every row's frame asks: the table as it is laid, the door's own heap, bytes that came in. -/
namespace Go.Proofs.YtjbdchgadfhffaaGreatDoor
open Go.ChangeShapes Go.WideShapes Go.ChangeAt Go.RowKit

set_option maxRecDepth 100000 in
theorem own : ownKnob Tryz.prog.godebug = none := by kernel_rfl
set_option maxRecDepth 100000 in
theorem laidOut : laidOutB Tryz.prog = true := by kernel_rfl
set_option maxRecDepth 100000 in
theorem gHalves : Tryz.prog.globalNamed "tabulary/crc.halves" = some 0 := by kernel_rfl
set_option maxRecDepth 100000 in
theorem tHalves : (Tryz.prog.globals[0]?).map (·.type) = some 175 := by kernel_rfl
set_option maxRecDepth 100000 in
theorem c23 : Tryz.prog.cellsOf 141 = 1 := by kernel_rfl
set_option maxRecDepth 100000 in
theorem c45 : Tryz.prog.cellsOf 175 = 16 := by kernel_rfl
set_option maxRecDepth 100000 in
theorem c5 : Tryz.prog.cellsOf 5 = 1 := by kernel_rfl
set_option maxRecDepth 100000 in
theorem u45 : Tryz.prog.underlying 175 = some (.array 16 141) := by kernel_rfl

abbrev laid1 : List (String × DataW Unit) := [("tabulary/crc.halves", Rows.laid_tabulary_crc_halves)]

/-- The door's own heap meets the condition. -/
theorem door_met (os : Os) (args : Array Value) : laidMetH Tryz.prog laid1 ((World.doorLaid Tryz.prog 14 os).forCall (fun _ _ => 0) ⟨#[], args, []⟩).memory :=
  laidMetH_of_parts3 (fuel := 8) (laidMet_of_run' 8 (by kernel_rfl) (by kernel_rfl)) (by kernel_rfl) (by kernel_rfl)

set_option maxRecDepth 100000 in
/-- What the condition gives the walks: the table. -/
theorem tab_of_laid {W : World} (h : laidMetH Tryz.prog laid1 W) : Tab W := by
  rw [MakeChecks.laidMetH_plain _ _ _ (by kernel_rfl)] at h
  have hT := Lib.tabIs_of_head (k := .u32) (zs := C.tab.map (fun n : Nat => (n : Int))) (rest := []) gHalves tHalves u45 Tryz.underlying141 c23 c45 h
  intro j hj
  have := hT.cell gHalves j (by simp [C.tab]; omega)
  rw [this]
  simp [List.getD]
  cases C.tab[j]? <;> rfl

set_option maxRecDepth 100000 in
/-- A uint32 that came in, as 32 bits. -/
theorem N_of_wf {z : Int} (h : (Lit.int .u32 z).wf = true) : ∃ x : C.V, z = N x := by
  have hb : 0 ≤ z ∧ z ≤ 4294967295 := by simpa [Lit.wf, IntKind.min, IntKind.max, IntKind.signed, IntKind.bits] using h
  exact N_of z hb.1 (by omega)

set_option maxRecDepth 100000 in
/-- Bytes that came in: where they lie. -/
theorem bytes_at {H : Type} {enc : TypeId × Value → H} {W : World} {a : Option Addr} {len cap : Nat} {d : DataW H} {p : List MemPlace} (h1 : DataW.Trod enc Tryz.prog W 0 (fun _ => true) true 37 (.slice a len cap) d p) :
    ∃ bs : List UInt8, len = bs.length ∧ At W a bs ∧ (a = none → cap = 0) ∧ len ≤ cap ∧ cap ≤ maxLen := by
  obtain ⟨fuel, hf⟩ := h1
  rcases open_ints Tryz.underlying37 Tryz.underlying5 c5 hf with ⟨hcs, _⟩ | ⟨x, l, c, zs, hcs, _, hl, hm, hz, _, hcell, hwz⟩
  · simp [Value.cells] at hcs
    obtain ⟨rfl, rfl, rfl⟩ := hcs
    exact ⟨[], rfl, At.nil _ _, fun _ => rfl, Nat.le_refl _, Nat.zero_le _⟩
  · simp [Value.cells] at hcs
    obtain ⟨rfl, rfl, rfl⟩ := hcs
    have hz' : zs.length = cap := by simpa using hz
    refine ⟨(zs.take len).map (fun z => UInt8.ofNat z.toNat), by simp; omega, ?_, (fun e => by cases e), hl, hm⟩
    intro j c hj
    rw [List.getElem?_map, List.getElem?_take] at hj
    split at hj
    · rename_i hjl
      have hjz : j < zs.length := by omega
      have hc := hcell j hjz
      have hzd : zs.getD j 0 = zs[j] := by simp [List.getD, hjz]
      have hw := hwz zs[j] (List.getElem_mem _)
      rw [List.getElem?_eq_getElem hjz] at hj
      simp only [Option.map_some, Option.some.injEq] at hj
      subst hj
      obtain ⟨b, o, sp⟩ := x
      have hsp : sp = none := by
        have hc0 := hcell 0 (by omega)
        have : (⟨b, o, sp⟩ : Addr).add 0 = ⟨b, o, sp⟩ := rfl
        rw [this] at hc0
        cases sp with
        | none => rfl
        | some q => simp [World.cell?] at hc0; split at hc0 <;> simp at hc0
      subst hsp
      refine ⟨b, o, rfl, ?_⟩
      rw [← Addr.add_mid, hc, hzd]
      have hb : 0 ≤ zs[j] ∧ zs[j] ≤ 255 := by simpa [Lit.wf, IntKind.min, IntKind.max, IntKind.signed, IntKind.bits] using hw
      have : ((UInt8.ofNat zs[j].toNat).toNat : Int) = zs[j] := by simp; omega
      rw [this]
    · cases hj
end Go.Proofs.YtjbdchgadfhffaaGreatDoor

/- Numbers that came in. -/
namespace Go.Proofs.YtjbdchgadfhffaaGreatDoor
open Go.ChangeShapes Go.WideShapes Go.ChangeAt Go.RowKit

set_option maxRecDepth 100000 in
theorem u64_of_wf {z : Int} (h : (Lit.int .u64 z).wf = true) : ∃ n : Nat, z = (n : Int) ∧ n < 18446744073709551616 := by
  have hb : 0 ≤ z ∧ z ≤ 18446744073709551615 := by simpa [Lit.wf, IntKind.min, IntKind.max, IntKind.signed, IntKind.bits] using h
  exact ⟨z.toNat, by omega, by omega⟩
set_option maxRecDepth 100000 in
theorem u8_of_wf {z : Int} (h : (Lit.int .u8 z).wf = true) : ∃ c : UInt8, z = (c.toNat : Int) := by
  have hb : 0 ≤ z ∧ z ≤ 255 := by simpa [Lit.wf, IntKind.min, IntKind.max, IntKind.signed, IntKind.bits] using h
  exact ⟨UInt8.ofNat z.toNat, by simp; omega⟩
end Go.Proofs.YtjbdchgadfhffaaGreatDoor

/- Acts of a law that came in: where they lie. -/
namespace Go.Proofs.YtjbdchgadfhffaaGreatDoor
open Go.ChangeShapes Go.WideShapes Go.ChangeAt Go.RowKit Go.Joins
set_option maxRecDepth 100000 in
/-- A slice that came in: its elements' cells. -/
theorem slice_ofF {H : Type} {enc : TypeId × Value → H} {W : World} {t e size fuel : Nat} {a : Option Addr} {len cap : Nat} {y : DataW H × List MemPlace} (ht : Tryz.prog.underlying t = some (.slice e)) (hsz : Tryz.prog.cellsOf e = size) (hp : 0 < size) (h : DataW.trod enc Tryz.prog W 0 (fun _ => true) true fuel t [.slice a len cap] = some y) :
    (a = none → cap = 0) ∧ len ≤ maxLen ∧ ∀ j, j < len → ∃ b o, a = some ⟨b, o, none⟩ ∧ ∃ cs n y', cs.length = size ∧ (∀ (i : Nat) v, cs[i]? = some v → W.cell? ⟨b, o + j * size + i, none⟩ = some v) ∧ DataW.trod enc Tryz.prog W 0 (fun _ => true) true n e cs = some y' := by
  rcases Go.Deep.open_slice ht h with ⟨hcs, _⟩ | ⟨x, l, c, m, n, D, Pl, hcs, _, hl, hm, hmm, _, hx⟩
  · simp at hcs
    obtain ⟨rfl, rfl, rfl⟩ := hcs
    exact ⟨fun _ => rfl, Nat.zero_le _, fun j hj => absurd hj (by omega)⟩
  · simp at hcs
    obtain ⟨rfl, rfl, rfl⟩ := hcs
    simp at hmm
    subst hmm
    refine ⟨fun e => (by cases e), by omega, fun j hj => ?_⟩
    rw [hsz] at hx
    obtain ⟨b, o, sp⟩ := x
    have hsp : sp = none := by
      obtain ⟨cs0, k1, _⟩ := hx 0 (by omega)
      obtain ⟨_, hlen0, hcell0⟩ := World.cells?_some k1
      have hc0 := hcell0 0 (by omega)
      rw [Nat.zero_mul] at hc0
      have e1 : ((⟨b, o, sp⟩ : Addr).add 0).add 0 = ⟨b, o, sp⟩ := rfl
      rw [e1] at hc0
      cases sp with
      | none => rfl
      | some q =>
        rw [List.getElem?_eq_getElem (by omega)] at hc0
        simp [World.cell?] at hc0; split at hc0 <;> simp at hc0
    subst hsp
    obtain ⟨cs', k1, k2⟩ := hx j (by omega)
    obtain ⟨_, hlen, hcell⟩ := World.cells?_some k1
    refine ⟨b, o, rfl, cs', n, _, hlen, fun i v hv => ?_, k2⟩
    have hi : i < size := by rw [← hlen]; exact (List.getElem?_eq_some_iff.1 hv).1
    have := hcell i hi
    rw [Addr.add_mid, Addr.add_mid, hv] at this
    exact this
set_option maxRecDepth 100000 in
/-- Out of the reading: where a slice's truths lie. -/
theorem bools_atF {H : Type} {enc : TypeId × Value → H} {W : World} {v : Value} {n : Nat} {y : DataW H × List MemPlace} (h : DataW.trod enc Tryz.prog W 0 (fun _ => true) true n 38 [v] = some y) :
    ∃ ka kc ks, v = .slice ka (List.length ks) kc ∧ KeptAt W ka ks ∧ ks.length ≤ 9223372036854775807 := by
  rcases Go.Deep.open_bools Tryz.underlying38 Tryz.underlying4 (by kernel_rfl) h with ⟨hcs, _⟩ | ⟨a, len, cap, B, hcs, _, hl, hm, _, hcell⟩
  · simp at hcs
    subst hcs
    exact ⟨none, 0, [], rfl, fun j hj => absurd hj (by simp), by simp⟩
  · simp at hcs
    subst hcs
    refine ⟨some a, cap, (List.range len).map B, by simp, fun j hj => ?_, by unfold maxLen at hm; simp; omega⟩
    have hj' : j < len := by simpa using hj
    obtain ⟨b, o, sp⟩ := a
    have hc := hcell j (by omega)
    have hsp : sp = none := by
      have hc0 := hcell 0 (by omega)
      have : (⟨b, o, sp⟩ : Addr).add 0 = ⟨b, o, sp⟩ := rfl
      rw [this] at hc0
      cases sp with
      | none => rfl
      | some q => simp [World.cell?] at hc0; split at hc0 <;> simp at hc0
    subst hsp
    exact ⟨b, o, rfl, by rw [← Addr.add_mid, hc]; simp⟩
set_option maxRecDepth 100000 in
/-- Out of the reading: a loss. -/
theorem loss_ofF {H : Type} {enc : TypeId × Value → H} {W : World} {n : Nat} {cs : List Value} {y : DataW H × List MemPlace} (h : DataW.trod enc Tryz.prog W 0 (fun _ => true) true n 40 cs = some y) :
    ∃ ka kc ks torn at_, cs = [.slice ka (List.length ks) kc, .int .i64 torn, .int .i64 at_] ∧ KeptAt W ka ks ∧ ks.length ≤ 9223372036854775807 := by
  obtain ⟨ys, m, _, _, hl, hyl, hg⟩ := DataW.trod_struct Tryz.underlying40 h
  have cL : Tryz.prog.cellsOf 40 = 3 := by kernel_rfl
  have c3' : Tryz.prog.cellsOf 3 = 1 := by kernel_rfl
  have cB : Tryz.prog.cellsOf 38 = 1 := by kernel_rfl
  rw [cL] at hl
  match ys, hyl, cs, hl with
  | [z0, z1, z2], _, [v0, v1, v2], _ =>
    have q0 := hg 0 _ rfl
    have q1 := hg 1 _ rfl
    have q2 := hg 2 _ rfl
    simp [cB] at q0
    simp [c3'] at q1 q2
    obtain ⟨ka, kc, ks, e5, hk, hkn⟩ := bools_atF q0
    obtain ⟨torn, e6, _, _⟩ := DataW.trod_int Tryz.underlying3 q1
    obtain ⟨at_, e7, _, _⟩ := DataW.trod_int Tryz.underlying3 q2
    refine ⟨ka, kc, ks, torn, at_, ?_, hk, hkn⟩
    simp at e5 e6 e7
    rw [e5, e6, e7]
/-- An act's cells. -/
def act11C (k no off n : Int) (fa : Option Addr) (fn fc : Nat) (c : UInt8) (ka : Option Addr) (kn kc : Nat) (torn at_ : Int) : List Value :=
  [.int .i64 k, .int .i64 no, .int .i64 off, .int .i64 n, .slice fa fn fc, .int .u8 (c.toNat : Int), .slice ka kn kc, .int .i64 torn, .int .i64 at_]
/-- An act that lies at a place. -/
def Act11At (w : World) (a : Option Addr) (j : Nat) : Prop := ∃ b o k0 no off n0 fa fc bs c ka kc ks torn at_, a = some ⟨b, o, none⟩ ∧
  w.rangeAt b (o + j * 9) (act11C k0 no off n0 fa (List.length bs) fc c ka (List.length ks) kc torn at_) ∧ (At w fa bs ∧ bs.length ≤ fc ∧ bs.length ≤ 9223372036854775807 ∧ (fa = none → fc = 0)) ∧ KeptAt w ka ks ∧ ks.length ≤ 9223372036854775807 ∧ n0 ≤ 9223372036854775807 ∧ (-9223372036854775808 ≤ no ∧ no ≤ 9223372036854775807)
/-- What is told of the acts: where they lie. -/
def Acts11 (w : World) (a : Option Addr) (len : Nat) : Prop := len ≤ 9223372036854775807 ∧ ∀ j, j < len → Act11At w a j
set_option maxRecDepth 100000 in
theorem infoAct11 : (Tryz.prog.info? 42).map (·.size) = some 9 := by kernel_rfl
set_option maxRecDepth 100000 in
theorem bytes_ofF {H : Type} {enc : TypeId × Value → H} {W : World} {fuel : Nat} {v : Value} {y : DataW H × List MemPlace} (h : DataW.trod enc Tryz.prog W 0 (fun _ => true) true fuel 37 [v] = some y) : ∃ a bs cap, v = .slice a (List.length bs) cap ∧ At W a bs ∧ bs.length ≤ cap ∧ bs.length ≤ 9223372036854775807 ∧ (a = none → cap = 0) := by
  have key : ∃ a len cap, v = .slice a len cap := by
    rcases Go.Deep.open_slice Tryz.underlying37 h with ⟨hcs, _⟩ | ⟨x, l, c, m, n, D, Pl, hcs, _⟩
    · simp at hcs
      exact ⟨none, 0, 0, hcs⟩
    · simp at hcs
      exact ⟨some x, l, c, hcs⟩
  obtain ⟨a, len, cap, rfl⟩ := key
  obtain ⟨bs, rfl, h1, h0, h2, h3⟩ := bytes_at (H := H) (enc := enc) (W := W) (a := a) (len := len) (cap := cap) (d := y.1) (p := y.2) ⟨fuel, by simpa [Value.cells] using h⟩
  exact ⟨a, bs, cap, rfl, h1, h2, by unfold maxLen at h3; omega, h0⟩
set_option maxRecDepth 100000 in
theorem act11_of {H : Type} {enc : TypeId × Value → H} {W : World} {n : Nat} {cs : List Value} {y : DataW H × List MemPlace} (h : DataW.trod enc Tryz.prog W 0 (fun _ => true) true n 42 cs = some y) :
    ∃ k0 no off n0 fa fc bs c ka kc ks torn at_, cs = act11C k0 no off n0 fa (List.length bs) fc c ka (List.length ks) kc torn at_ ∧ (At W fa bs ∧ bs.length ≤ fc ∧ bs.length ≤ 9223372036854775807 ∧ (fa = none → fc = 0)) ∧ KeptAt W ka ks ∧ ks.length ≤ 9223372036854775807 ∧ n0 ≤ 9223372036854775807 ∧ (-9223372036854775808 ≤ no ∧ no ≤ 9223372036854775807) := by
  obtain ⟨xs, k, _, _, hl, hxl, hf⟩ := DataW.trod_struct Tryz.underlying42 h
  have cA : Tryz.prog.cellsOf 42 = 9 := by kernel_rfl
  have c3' : Tryz.prog.cellsOf 3 = 1 := by kernel_rfl
  have c5' : Tryz.prog.cellsOf 5 = 1 := by kernel_rfl
  have cU : Tryz.prog.cellsOf 37 = 1 := by kernel_rfl
  have cL : Tryz.prog.cellsOf 40 = 3 := by kernel_rfl
  rw [cA] at hl
  match xs, hxl, cs, hl with
  | [y0, y1, y2, y3, y4, y5, y6], _, [v0, v1, v2, v3, v4, v5, v6, v7, v8], _ =>
    have g0 := hf 0 _ rfl
    have g1 := hf 1 _ rfl
    have g2 := hf 2 _ rfl
    have g3 := hf 3 _ rfl
    have g4 := hf 4 _ rfl
    have g5 := hf 5 _ rfl
    have g6 := hf 6 _ rfl
    simp [c3'] at g0 g1 g2 g3
    simp [cU] at g4
    simp [c5'] at g5
    simp [cL] at g6
    obtain ⟨k0, e0, _, _⟩ := DataW.trod_int Tryz.underlying3 g0
    obtain ⟨no, e1, _, w1⟩ := DataW.trod_int Tryz.underlying3 g1
    obtain ⟨off, e2, _, _⟩ := DataW.trod_int Tryz.underlying3 g2
    obtain ⟨n0, e3, _, w3⟩ := DataW.trod_int Tryz.underlying3 g3
    obtain ⟨fa, bs, fc, e4, hfx⟩ := bytes_ofF g4
    obtain ⟨z, e5, _, w5⟩ := DataW.trod_int Tryz.underlying5 g5
    obtain ⟨ka, kc, ks, torn, at_, e6, hk, hkn⟩ := loss_ofF g6
    have hz : 0 ≤ z ∧ z < 256 := by
      have := bounds_u8 w5
      omega
    have hc : z = ((UInt8.ofNat z.toNat).toNat : Int) := by
      have : (UInt8.ofNat z.toNat).toNat = z.toNat := by simp; omega
      rw [this]; omega
    have wb := bounds_i64 w1
    have wn := bounds_i64 w3
    refine ⟨k0, no, off, n0, fa, fc, bs, UInt8.ofNat z.toNat, ka, kc, ks, torn, at_, ?_, hfx, hk, hkn, wn.2, wb⟩
    simp at e0 e1 e2 e3 e4 e5 e6
    rw [e0, e1, e2, e3, e4, e5, e6.1, e6.2.1, e6.2.2]
    unfold act11C
    rw [← hc]
set_option maxRecDepth 100000 in
theorem acts11_at {H : Type} {enc : TypeId × Value → H} {W : World} {a1 : Option Addr} {len1 cap1 : Nat} {d1 : DataW H} {p1 : List MemPlace} (h1 : DataW.Trod enc Tryz.prog W 0 (fun _ => true) true 22 (.slice a1 len1 cap1) d1 p1) : Acts11 W a1 len1 := by
  obtain ⟨fuel, hf⟩ := h1
  have hf : DataW.trod enc Tryz.prog W 0 (fun _ => true) true fuel 22 [.slice a1 len1 cap1] = some (d1, p1) := by simpa [Value.cells] using hf
  obtain ⟨_, h2, h3⟩ := slice_ofF Tryz.underlying22 (show Tryz.prog.cellsOf 42 = 9 by kernel_rfl) (by omega) hf
  refine ⟨by unfold maxLen at h2; omega, fun j hj => ?_⟩
  obtain ⟨b, o, e, cs, n, y', hl, hc, ht⟩ := h3 j hj
  obtain ⟨k0, no, off, n0, fa, fc, bs, c, ka, kc, ks, torn, at_, rfl, q1, q2, q3, q4, q5⟩ := act11_of ht
  exact ⟨b, o, k0, no, off, n0, fa, fc, bs, c, ka, kc, ks, torn, at_, e, fun i v hv => hc i v hv, q1, q2, q3, q4, q5⟩
end Go.Proofs.YtjbdchgadfhffaaGreatDoor
