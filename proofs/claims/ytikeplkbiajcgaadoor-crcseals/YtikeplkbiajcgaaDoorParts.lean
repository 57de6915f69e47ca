/- The walk of CrcParts. -/
import Derived.Test.YtikeplkbiajcgaaDoorWorks
namespace Go.Proofs.YtikeplkbiajcgaaDoor
open Go.RowKit

/-- Where the bytes behind a cut lie. -/
def sufAt (a : Option Addr) (cap n : Nat) : Option Addr := if cap = n then a else a.map (·.add n)
theorem At.sufAt {w : World} {a : Option Addr} {bs : List UInt8} (h : At w a bs) (cap n : Nat) (hc : bs.length ≤ cap) : At w (sufAt a cap n) (bs.drop n) := by
  unfold Go.Proofs.YtikeplkbiajcgaaDoor.sufAt
  by_cases hn : cap = n
  · rw [List.drop_eq_nil_of_le (by omega)]; exact At.nil _ _
  · rw [if_neg hn]
    intro j c hj
    rw [List.getElem?_drop] at hj
    obtain ⟨b, o, rfl, hcell⟩ := h _ c hj
    exact ⟨b, o + n, by simp [Addr.add_mid], by rw [Nat.add_assoc]; exact hcell⟩
theorem run_pre (a : Option Addr) (len cap n : Nat) (hn : n ≤ cap) (w : World) : (Instr.sliceAt 22 (.slice a len cap) none (some (.int .i64 (n : Int))) none).run Tryd.prog w = .ok (.slice a n cap) w := by
  have hsz : (sizeOf 5).run Tryd.prog w = .ok 1 w := by kernel_rfl
  rw [run_sliceAt_slice w 22 _ _ _ _ Tryd.underlying22, run_slice_h w 22 a len cap Tryd.underlying22 .i64 n (by omega) (by omega)]
  have he : Tryd.prog.elem 22 = 5 := by kernel_rfl
  rw [he, hsz]
  simp only [Result.andThen, sliced, Int.toNat_natCast, Nat.zero_mul, Nat.sub_zero]
  congr 2
  split
  · rfl
  · cases a <;> rfl
theorem run_suf (a : Option Addr) (len cap n : Nat) (hn : n ≤ len) (w : World) : (Instr.sliceAt 22 (.slice a len cap) (some (.int .i64 (n : Int))) none none).run Tryd.prog w = .ok (.slice (sufAt a cap n) (len - n) (cap - n)) w := by
  have hsz : (sizeOf 5).run Tryd.prog w = .ok 1 w := by kernel_rfl
  rw [run_sliceAt_slice w 22 _ _ _ _ Tryd.underlying22, run_slice_l w 22 a len cap Tryd.underlying22 .i64 n (by omega) (by omega)]
  have he : Tryd.prog.elem 22 = 5 := by kernel_rfl
  rw [he, hsz]
  simp only [Result.andThen, sliced, Int.toNat_natCast, Nat.mul_one]
  rfl

/-- Which slice has which sum. -/
def Sms3 (a a2 : Option Addr) (len cap n : Nat) (s1 s2 s : M.V) (x z : Value) : Prop :=
  (x = .slice a n cap ∧ z = .int .u32 (N s1)) ∨ (x = .slice a2 (len - n) (cap - n) ∧ z = .int .u32 (N s2)) ∨ (x = .slice a len cap ∧ z = .int .u32 (N s))
theorem Sms3.first {a a2 : Option Addr} {len cap n : Nat} {s1 s2 s : M.V} : Sms3 a a2 len cap n s1 s2 s (.slice a n cap) (.int .u32 (N s1)) := .inl ⟨rfl, rfl⟩
theorem Sms3.last {a a2 : Option Addr} {len cap n : Nat} {s1 s2 s : M.V} : Sms3 a a2 len cap n s1 s2 s (.slice a2 (len - n) (cap - n)) (.int .u32 (N s2)) := .inr (.inl ⟨rfl, rfl⟩)
theorem Sms3.all {a a2 : Option Addr} {len cap n : Nat} {s1 s2 s : M.V} : Sms3 a a2 len cap n s1 s2 s (.slice a len cap) (.int .u32 (N s)) := .inr (.inr ⟨rfl, rfl⟩)

namespace Pts
theorem remlen (a : Int) (m : Nat) : ∃ k : Nat, k ≤ m ∧ (IntKind.u64.wrap a).tmod ((m : Int) + 1) = (k : Int) ∧ IntKind.u64.wrap a % ((m : Int) + 1) = (k : Int) := by
  have hu : 0 ≤ IntKind.u64.wrap a := by
    simp only [IntKind.wrap]
    exact Int.emod_nonneg _ (by decide)
  have e0 := Int.emod_nonneg (IntKind.u64.wrap a) (show ((m : Int) + 1) ≠ 0 by omega)
  have e1 := Int.emod_lt_of_pos (IntKind.u64.wrap a) (show (0 : Int) < ((m : Int) + 1) by omega)
  exact ⟨(IntKind.u64.wrap a % ((m : Int) + 1)).toNat, by omega, by rw [Int.tmod_eq_emod_of_nonneg hu]; omega, by omega⟩

set_option maxRecDepth 100000 in
set_option maxHeartbeats 4000000 in
theorem walk (a : Option Addr) (bs : List UInt8) (cap : Nat) (at_ : Int) (w : World) (hlen : bs.length ≤ 9223372036854775807) (hcap : bs.length ≤ cap) (hT : Tab w) (hA : At w a bs) : Calls Tryd.prog 6 #[.slice a bs.length cap, .int .i64 at_] w (Adding (.bool true) w) := by
  have HW := hid (works_any w hT)
  obtain ⟨k, hk, e1, e2⟩ := remlen at_ bs.length
  have s1 := run_pre a bs.length cap k (by omega)
  have s2 := run_suf a bs.length cap k hk
  have HS := hid (show ∀ w', Adds w w' → ∀ v r, Sms3 a (sufAt a cap k) bs.length cap k (M.sum (bs.take k)) (M.sum (bs.drop k)) (M.sum bs) v r → Calls Tryd.prog 9 #[v] w' (Tells r w') from fun w' h v r hv => by
    have hA' := hA.adds h
    have hT' := hT.adds h
    rcases hv with ⟨rfl, rfl⟩ | ⟨rfl, rfl⟩ | ⟨rfl, rfl⟩
    · have := sum_any a (bs.take k) cap w' (by simp; omega) hT' (hA'.pre k)
      rw [List.length_take, Nat.min_eq_left hk] at this
      exact this
    · have := sum_any (sufAt a cap k) (bs.drop k) (cap - k) w' (by simp; omega) hT' (hA'.sufAt cap k hcap)
      rw [List.length_drop] at this
      exact this
    · exact sum_any a bs cap w' hlen hT' hA')
  have HJ := hid (show ∀ w', Calls Tryd.prog 14 #[.int .u32 (N (M.sum (bs.take k))), .int .u32 (N (M.sum (bs.drop k))), .int .i64 (IntKind.i64.wrap ((bs.length : Int) - (k : Int)))] w' (Adding (.int .u32 (N (M.sum bs))) w') from fun w' => by
    rw [IntKind.wrap_i64, show (((bs.length : Int) - (k : Int) + 9223372036854775808) % 18446744073709551616 - 9223372036854775808) = (bs.length : Int) - (k : Int) by omega]
    have := join_any (M.sum (bs.take k)) (M.sum (bs.drop k)) ((bs.length : Int) - (k : Int)) (by omega) w'
    rw [show ((bs.length : Int) - (k : Int)).toNat = (bs.drop k).length by rw [List.length_drop]; omega, M.join, M.sum_parts, List.take_append_drop] at this
    exact this)
  generalize M.sum (bs.take k) = x1 at HS HJ
  generalize M.sum (bs.drop k) = x2 at HS HJ
  generalize M.sum bs = x at HS HJ
  generalize sufAt a cap k = a2 at HS s2
  clear hT hA
  by_cases h : 5000 < bs.length
  · go_enter Tryd.func6, Tryd.ntmps6
    go_wp2_with (go_at_call 11; refine HW.out.mono ?_; rintro e w1 ⟨rfl, hA1⟩)
    go_ret
    exact ⟨rfl, hA1⟩
  · go_enter Tryd.func6, Tryd.ntmps6
    go_wp2_with (go_at_call 11; refine HW.out.mono ?_; rintro e w1 ⟨rfl, hA1⟩)
    have HA1 := hid hA1
    go_region_held3 (fun _ => True) (trivial) (first
      | (go_at_call 9; refine (HS.out _ (by first | exact HA1.out.drew.trans h2 | exact HA1.out.drew) _ _ (by first | exact .first | exact .last | exact .all)).mono ?_; rintro e _ ⟨rfl, hw⟩; rw [hw]; clear hw)
      | (go_at_call 14; refine (HJ.out _).mono ?_; rintro e w2 ⟨rfl, h2⟩))
    go_wp2
    go_ret
    exact ⟨rfl, HA1.out.drew.trans h2⟩
end Pts
end Go.Proofs.YtikeplkbiajcgaaDoor
