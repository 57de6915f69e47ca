/- down, the reference's down, halfDown. -/
import Derived.Test.YtahbggdidhmnfaaDoorArith
namespace Go.Proofs.YtahbggdidhmnfaaDoor
open Go.RowKit

theorem low_and (x : C.V) : x &&& 1#32 = if x.getLsbD 0 then 1#32 else 0#32 := by
  apply BitVec.eq_of_getLsbD_eq
  intro i hi
  cases i with
  | zero => rw [BitVec.getLsbD_and]; cases h : x.getLsbD 0 <;> simp
  | succ i => 
    rw [BitVec.getLsbD_and, show (1#32).getLsbD (i + 1) = false by simp]
    split <;> simp
theorem D_and (x : C.V) : (x >>> 1) ^^^ (3988292384#32 &&& -(x &&& 1#32)) = C.D x := by
  unfold C.D
  rw [low_and]
  cases x.getLsbD 0 <;> simp
  · rfl
theorem low_mod (x : C.V) : N x % (2 : Int) = if x.getLsbD 0 then 1 else 0 := by
  simp only [N]
  rw [BitVec.getLsbD, Nat.testBit_zero]
  by_cases h : x.toNat % 2 = 1
  · simp [h]; omega
  · simp [h]; omega

/-- What a call tells that changes nothing. -/
def Tells (v : Value) (w : World) (e : Ending) (w' : World) : Prop := e = .returned v ∧ w' = w

set_option maxHeartbeats 400000 in
theorem rdown_any (x : C.V) (w : World) : Calls Tryd.prog 50 #[.int .u32 (N x)] w (Tells (.int .u32 (N (C.D x))) w) := by
  have e2 := bits_xor (x >>> 1) 3988292384#32
  rw [show N 3988292384#32 = 3988292384 by decide] at e2
  have e3 := N_shr1 x
  have hm := low_mod x
  have HE := hid (And.intro e2 (And.intro e3 hm))
  clear e2 e3 hm
  go_enter Tryd.func50, Tryd.ntmps50
  go_wp2
  · rename_i h
    go_ret
    refine ⟨?_, rfl⟩
    show Ending.returned (.int .u32 (bits .xor .u32 (N x / 2) 3988292384)) = _
    obtain ⟨e2, e3, hm⟩ := HE.out
    rw [e3, e2]
    have hb : x.getLsbD 0 = true := by
      have h' : N x % (2 : Int) = 1 := by rw [← Int.tmod_eq_emod_of_nonneg (N_nonneg x)]; simpa using h
      rw [hm] at h'
      cases hb : x.getLsbD 0
      · rw [hb] at h'; simp at h'
      · rfl
    unfold C.D
    rw [if_pos hb]; rfl
  · rename_i h
    go_ret
    refine ⟨?_, rfl⟩
    show Ending.returned (.int .u32 (N x / 2)) = _
    obtain ⟨e2, e3, hm⟩ := HE.out
    rw [e3]
    have hb : x.getLsbD 0 = false := by
      have h' : ¬ N x % (2 : Int) = 1 := by rw [← Int.tmod_eq_emod_of_nonneg (N_nonneg x)]; simpa using h
      rw [hm] at h'
      cases hb : x.getLsbD 0
      · rfl
      · rw [hb] at h'; simp at h'
    rw [C.D_even x hb]

set_option maxHeartbeats 400000 in
theorem half_any (x : C.V) (w : World) (hT : Tab w) : Calls Tryd.prog 44 #[.int .u32 (N x)] w (Tells (.int .u32 (N (C.Dn 4 x))) w) := by
  have hand := bits_and x 15#32
  rw [show N 15#32 = 15 by decide] at hand
  have hk : (x &&& 15#32).toNat < 16 := by
    rw [BitVec.toNat_and]
    exact Nat.lt_of_le_of_lt Nat.and_le_right (by decide)
  have hh := C.half x
  have hc := hT _ hk
  simp only [N] at hand
  generalize (x &&& 15#32).toNat = k at hand hk hc hh
  have htab : C.tab.getD k 0 < 4294967296 := by
    have : ∀ k : Fin 16, C.tab.getD k.val 0 < 4294967296 := by decide
    exact this ⟨k, hk⟩
  generalize C.tab.getD k 0 = t at hc hh htab
  have HH := hid (And.intro hh htab)
  clear hh htab
  go_enter Tryd.func44, Tryd.ntmps44
  go_wp2
  go_ret
  refine ⟨?_, rfl⟩
  show Ending.returned (.int .u32 (bits .xor .u32 (N x / 16) ((t : Nat) : Int))) = _
  obtain ⟨hh, htab⟩ := HH.out
  rw [N_shr4, ← N_ofNat t htab, bits_xor, hh]
end Go.Proofs.YtahbggdidhmnfaaDoor
