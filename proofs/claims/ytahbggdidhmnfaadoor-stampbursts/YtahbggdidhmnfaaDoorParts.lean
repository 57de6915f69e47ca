/- The walk of CrcParts. -/
import Derived.Test.YtahbggdidhmnfaaDoorSeal
namespace Go.Proofs.YtahbggdidhmnfaaDoor
open Go.RowKit

/-- Where the bytes behind a cut lie. -/
def sufAt (a : Option Addr) (cap n : Nat) : Option Addr := if cap = n then a else a.map (·.add n)
set_option maxRecDepth 100000 in
theorem At.sufAt {w : World} {a : Option Addr} {bs : List UInt8} (h : At w a bs) (cap n : Nat) (hc : bs.length ≤ cap) : At w (sufAt a cap n) (bs.drop n) := by
  unfold Go.Proofs.YtahbggdidhmnfaaDoor.sufAt
  by_cases hn : cap = n
  · rw [List.drop_eq_nil_of_le (by omega)]; exact At.nil _ _
  · rw [if_neg hn]
    intro j c hj
    rw [List.getElem?_drop] at hj
    obtain ⟨b, o, rfl, hcell⟩ := h _ c hj
    exact ⟨b, o + n, by simp [Addr.add_mid], by rw [Nat.add_assoc]; exact hcell⟩
set_option maxRecDepth 100000 in
theorem run_pre (a : Option Addr) (len cap n : Nat) (hn : n ≤ cap) (w : World) : (Instr.sliceAt 23 (.slice a len cap) none (some (.int .i64 (n : Int))) none).run Tryd.prog w = .ok (.slice a n cap) w := by
  have hsz : (sizeOf 5).run Tryd.prog w = .ok 1 w := by kernel_rfl
  rw [run_sliceAt_slice w 23 _ _ _ _ Tryd.underlying23, run_slice_h w 23 a len cap Tryd.underlying23 .i64 n (by omega) (by omega)]
  have he : Tryd.prog.elem 23 = 5 := by kernel_rfl
  rw [he, hsz]
  simp only [Result.andThen, sliced, Int.toNat_natCast, Nat.zero_mul, Nat.sub_zero]
  congr 2
  split
  · rfl
  · cases a <;> rfl
set_option maxRecDepth 100000 in
theorem run_suf (a : Option Addr) (len cap n : Nat) (hn : n ≤ len) (w : World) : (Instr.sliceAt 23 (.slice a len cap) (some (.int .i64 (n : Int))) none none).run Tryd.prog w = .ok (.slice (sufAt a cap n) (len - n) (cap - n)) w := by
  have hsz : (sizeOf 5).run Tryd.prog w = .ok 1 w := by kernel_rfl
  rw [run_sliceAt_slice w 23 _ _ _ _ Tryd.underlying23, run_slice_l w 23 a len cap Tryd.underlying23 .i64 n (by omega) (by omega)]
  have he : Tryd.prog.elem 23 = 5 := by kernel_rfl
  rw [he, hsz]
  simp only [Result.andThen, sliced, Int.toNat_natCast, Nat.mul_one]
  rfl

/-- Which slice has which sum. -/
def Sms3 (a a2 : Option Addr) (len cap n : Nat) (s1 s2 s : C.V) (x z : Value) : Prop :=
  (x = .slice a n cap ∧ z = .int .u32 (N s1)) ∨ (x = .slice a2 (len - n) (cap - n) ∧ z = .int .u32 (N s2)) ∨ (x = .slice a len cap ∧ z = .int .u32 (N s))
theorem Sms3.first {a a2 : Option Addr} {len cap n : Nat} {s1 s2 s : C.V} : Sms3 a a2 len cap n s1 s2 s (.slice a n cap) (.int .u32 (N s1)) := .inl ⟨rfl, rfl⟩
theorem Sms3.last {a a2 : Option Addr} {len cap n : Nat} {s1 s2 s : C.V} : Sms3 a a2 len cap n s1 s2 s (.slice a2 (len - n) (cap - n)) (.int .u32 (N s2)) := .inr (.inl ⟨rfl, rfl⟩)
theorem Sms3.all {a a2 : Option Addr} {len cap n : Nat} {s1 s2 s : C.V} : Sms3 a a2 len cap n s1 s2 s (.slice a len cap) (.int .u32 (N s)) := .inr (.inr ⟨rfl, rfl⟩)

namespace Pts
set_option maxRecDepth 100000 in
theorem remlen (a : Int) (m : Nat) : ∃ k : Nat, k ≤ m ∧ (IntKind.u64.wrap a).tmod ((m : Int) + 1) = (k : Int) ∧ IntKind.u64.wrap a % ((m : Int) + 1) = (k : Int) := by
  have hu : 0 ≤ IntKind.u64.wrap a := by
    simp only [IntKind.wrap]
    exact Int.emod_nonneg _ (by decide)
  have e0 := Int.emod_nonneg (IntKind.u64.wrap a) (show ((m : Int) + 1) ≠ 0 by omega)
  have e1 := Int.emod_lt_of_pos (IntKind.u64.wrap a) (show (0 : Int) < ((m : Int) + 1) by omega)
  exact ⟨(IntKind.u64.wrap a % ((m : Int) + 1)).toNat, by omega, by rw [Int.tmod_eq_emod_of_nonneg hu]; omega, by omega⟩

end Pts
end Go.Proofs.YtahbggdidhmnfaaDoor
