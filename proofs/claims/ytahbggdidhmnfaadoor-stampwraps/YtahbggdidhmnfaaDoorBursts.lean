/- The walk of CrcBursts. -/
import Derived.Test.YtahbggdidhmnfaaDoorOpen3
import Derived.Test.YtahbggdidhmnfaaDoorBurst
namespace Go.Proofs.YtahbggdidhmnfaaDoor
open Go.RowKit

/-- A row that begins with these bytes. -/
def RowB (w : World) (g : Nat) (cs : List UInt8) : Prop := ∃ cur, w.heap[g]? = some (.cells cur 5 (0, 0)) ∧ ∀ (j : Nat) (c : UInt8), cs[j]? = some c → cur[j]? = some (.int .u8 (c.toNat : Int))
theorem RowB.of_own {w : World} {base g n cap : Nat} {bs : List UInt8} (h : w.ownsRow base 5 1 (.slice (some ⟨g, 0, none⟩) n cap) n (S bs)) : RowB w g bs := by
  rcases h.2 with ⟨e, _⟩ | ⟨g', cap', cur, e, _, hg, _, _, _, ht⟩
  · cases e
  · obtain ⟨rfl, _⟩ : g = g' ∧ cap = cap' := by simpa using e
    refine ⟨cur, hg, fun j c hj => ?_⟩
    have h2 : (S bs)[j]? = some (.int .u8 (c.toNat : Int)) := by rw [S_get, hj]; rfl
    rw [← ht, List.getElem?_take] at h2
    split at h2
    · rw [← Array.getElem?_toList]; exact h2
    · cases h2
theorem RowB.at {w : World} {g : Nat} {cs : List UInt8} (h : RowB w g cs) : At w (some ⟨g, 0, none⟩) cs := by
  obtain ⟨cur, hc, hz⟩ := h
  exact fun j c hj => ⟨g, 0, rfl, by rw [cell_of_row w g _ cur 5 _ hc, Nat.zero_add]; exact hz j c hj⟩
theorem RowB.cell {w : World} {g : Nat} {cs : List UInt8} (h : RowB w g cs) {q : Nat} {c : UInt8} (hq : cs[q]? = some c) : w.cell? ⟨g, q, none⟩ = some (.int .u8 (c.toNat : Int)) ∧ w.frozen? ⟨g, q, none⟩ = false := by
  obtain ⟨cur, hc, hz⟩ := h
  exact ⟨by rw [cell_of_row w g q cur 5 _ hc]; exact hz q c hq, frozen_of_row w g q cur 5 hc⟩
theorem RowB.set {w : World} {g : Nat} {cs : List UInt8} (h : RowB w g cs) (q : Nat) (v : UInt8) (hq : q < cs.length) : RowB (w.setCell ⟨g, q, none⟩ (.int .u8 (v.toNat : Int))) g (cs.set q v) := by
  obtain ⟨cur, hc, hz⟩ := h
  refine ⟨_, heap_setCell_same w g q cur 5 _ hc, fun j c hj => ?_⟩
  rw [List.getElem?_set] at hj
  rw [Array.getElem?_setIfInBounds]
  have hs : q < cur.size := (Array.getElem?_eq_some_iff.1 (hz q cs[q] (List.getElem?_eq_getElem hq))).1
  by_cases e : q = j
  · subst e
    rw [if_pos rfl, if_pos hq] at hj
    obtain rfl : v = c := by simpa using hj
    rw [if_pos rfl, if_pos hs]
  · rw [if_neg e] at hj
    rw [if_neg e]
    exact hz j c hj
theorem flip_set (cs : List UInt8) (t : Nat) (c : UInt8) (hc : cs[t / 8]? = some c) : flip cs t = cs.set (t / 8) (c ^^^ UInt8.ofNat (2 ^ (t % 8))) := by
  apply List.ext_getElem?
  intro j
  unfold flip
  rw [List.getElem?_modify, List.getElem?_set]
  have hl := (List.getElem?_eq_some_iff.1 hc).1
  by_cases e : t / 8 = j
  · subst e; simp [hl, (List.getElem?_eq_some_iff.1 hc).2]
  · simp [e]
theorem bits_xor8 (a b : UInt8) : bits .xor .u8 (a.toNat : Int) (b.toNat : Int) = ((a ^^^ b).toNat : Int) := by
  show IntKind.u8.wrap ((BitVec.ofInt 8 (a.toNat : Int) ^^^ BitVec.ofInt 8 (b.toNat : Int)).toNat : Int) = _
  have e : ∀ c : UInt8, BitVec.ofInt 8 (c.toNat : Int) = c.toBitVec := by
    intro c
    rw [BitVec.ofInt_natCast]
    apply BitVec.eq_of_toNat_eq
    simp
  have h : (BitVec.ofInt 8 (a.toNat : Int) ^^^ BitVec.ofInt 8 (b.toNat : Int)).toNat = (a ^^^ b).toNat := by
    rw [e, e, UInt8.toNat_xor, BitVec.toNat_xor]; rfl
  rw [h, wrap_byte]
theorem bit_and (x : C.V) (i : Nat) : bits .and .u32 (N (x >>> i)) 1 = if x.getLsbD i then 1 else 0 := by
  have e := bits_and (x >>> i) 1#32
  rw [show N 1#32 = 1 by decide] at e
  rw [e, low_and, BitVec.getLsbD_ushiftRight, Nat.add_zero]
  cases x.getLsbD i <;> decide
theorem bit_pow (r : Nat) (h : r < 8) : (2 : Int) ^ r = ((UInt8.ofNat (2 ^ r)).toNat : Int) := by
  have : ∀ k : Fin 8, (2 : Int) ^ k.val = ((UInt8.ofNat (2 ^ k.val)).toNat : Int) := by decide
  exact this ⟨r, h⟩
theorem opened_sealed (bs : List UInt8) : opened (sealed bs) = bs ∧ openErr (sealed bs) = 0 := by
  have hl := len_sealed bs
  have ht : (sealed bs).take ((sealed bs).length - 4) = bs := by
    rw [hl, Nat.add_sub_cancel]; unfold sealed; rw [List.take_left]
  have h4 : ¬ (sealed bs).length < 4 := by omega
  constructor
  · rw [opened, if_neg h4, ht, if_pos rfl]
  · rw [openErr, if_neg h4, ht, if_pos rfl]
theorem opened_found {bs cs : List UInt8} {b : C.V} {k i : Nat} (h : Burst bs cs b k i true) : opened cs = [] ∧ openErr cs = 20 := by
  have hl := h.len
  have hf := h.found
  have h4 : ¬ cs.length < 4 := by omega
  exact ⟨by rw [opened, if_neg h4, if_neg hf], by rw [openErr, if_neg h4, if_neg hf]⟩

namespace Bts
/-- What the loop keeps. -/
def Inv (w1 : World) (gs : Nat) (bs : List UInt8) (x : C.V) (kk i : Nat) (t : Bool) (wr : World) : Prop := ∃ cs, Burst bs cs x kk i t ∧ RowB wr gs cs ∧ Adds w1 wr ∧ w1.heap.size ≤ gs
theorem rembits (a : Int) (m : Nat) (hm : 0 < m) : ∃ k : Nat, k < m ∧ (IntKind.u64.wrap a).tmod (m : Int) = (k : Int) ∧ IntKind.u64.wrap a % (m : Int) = (k : Int) := by
  have hu : 0 ≤ IntKind.u64.wrap a := by
    simp only [IntKind.wrap]
    exact Int.emod_nonneg _ (by decide)
  have e0 := Int.emod_nonneg (IntKind.u64.wrap a) (show (m : Int) ≠ 0 by omega)
  have e1 := Int.emod_lt_of_pos (IntKind.u64.wrap a) (show (0 : Int) < (m : Int) by omega)
  exact ⟨(IntKind.u64.wrap a % (m : Int)).toNat, by omega, by rw [Int.tmod_eq_emod_of_nonneg hu]; omega, by omega⟩

end Bts
end Go.Proofs.YtahbggdidhmnfaaDoor
