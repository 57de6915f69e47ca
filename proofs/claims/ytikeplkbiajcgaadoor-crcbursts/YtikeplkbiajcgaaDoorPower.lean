/- times, doubling, power. -/
import Derived.Test.YtikeplkbiajcgaaDoorSum
import Derived.Deep.LoopGhost
namespace Go.Proofs.YtikeplkbiajcgaaDoor
open Go.RowKit

theorem and_one (a : M.V) : bits .and .u32 (N a) 2147483648 = if a.msb then 2147483648 else 0 := by
  have e := bits_and a M.one
  rw [show N M.one = 2147483648 by decide] at e
  rw [e]
  have : a &&& M.one = if a.msb then M.one else 0#32 := by
    apply BitVec.eq_of_getLsbD_eq
    intro i hi
    rw [BitVec.getLsbD_and, BitVec.msb_eq_getLsbD_last]
    have hone : ∀ i : Fin 32, M.one.getLsbD i.val = decide (i.val = 31) := by decide
    rw [hone ⟨i, hi⟩]
    by_cases h : i = 31
    · subst h
      cases hb : a.getLsbD 31
      · simp
      · simp [M.one]
    · cases hb : a.getLsbD 31
      · simp [h]
      · simp [h, hone ⟨i, hi⟩]
  rw [this]
  cases a.msb <;> decide

set_option maxRecDepth 100000 in
set_option maxHeartbeats 1000000 in
theorem times_any (a b : M.V) (w : World) : Calls Tryd.prog 22 #[.int .u32 (N a), .int .u32 (N b)] w (Tells (.int .u32 (N (M.mul a b))) w) := by
  go_enter Tryd.func22, Tryd.ntmps22
  go_wp2
  go_loopg [0, 1, 5] 32 (fun n x0 x1 x5 wr => ∃ a' b' p' : M.V, x0 = .int .u32 (N a') ∧ x1 = .int .u32 (N b') ∧ x5 = .int .u32 (N p') ∧ a' <<< n = 0#32 ∧ p' ^^^ M.act n a' b' = M.mul a b ∧ wr = w)
  case atStart => exact ⟨a, b, 0#32, rfl, rfl, rfl, by apply BitVec.eq_of_getLsbD_eq; intro i hi; simp [hi], by simp [M.mul], rfl⟩
  case round =>
    obtain ⟨a', b', p', rfl, rfl, rfl, hs, hp, rfl⟩ := hrel
    by_cases h0 : a' = 0#32
    · subst h0
      have hz : N 0#32 = 0 := rfl
      have HP := hid hp
      clear hp hs
      go_wp2
      go_ret
      refine ⟨?_, rfl⟩
      show Ending.returned (.int .u32 (N p')) = _
      have := HP.out
      rw [M.act_zero] at this
      rw [← this]; simp
    · have hne : N a' ≠ 0 := fun e => h0 (N_inj (e.trans rfl))
      have hand := and_one a'
      have hshl := N_shl1 a'
      have hxor := bits_xor p' b'
      obtain ⟨m, rfl⟩ : ∃ m, gk = m + 1 := by
        cases gk with
        | zero => exact absurd (by simpa using hs) h0
        | succ m => exact ⟨m, rfl⟩
      have HS := hid (show (a' <<< 1) <<< m = 0#32 by rw [← hs, ← BitVec.shiftLeft_add, Nat.add_comm])
      have HP := hid hp
      clear hp hs h0
      cases hm : a'.msb
      · rw [hm] at hand
        simp only [Bool.false_eq_true, if_false] at hand
        have HM := hid hm
        clear hm
        go_wp2_with (go_at_call 26; refine (down_any _ _).mono ?_; rintro e _ ⟨rfl, hw⟩; rw [hw]; clear hw)
        go_roundg m
        case measure => omega
        case rel =>
          refine ⟨a' <<< 1, M.D b', p', by rw [hshl], rfl, rfl, HS.out, ?_, rfl⟩
          rw [← HP.out]
          show _ = p' ^^^ ((if a'.msb then b' else 0#32) ^^^ M.act m (a' <<< 1) (M.D b'))
          rw [HM.out]; simp
      · rw [hm] at hand
        simp only [if_true] at hand
        have HM := hid hm
        clear hm
        go_wp2_with (go_at_call 26; refine (down_any _ _).mono ?_; rintro e _ ⟨rfl, hw⟩; rw [hw]; clear hw)
        go_roundg m
        case measure => omega
        case rel =>
          refine ⟨a' <<< 1, M.D b', p' ^^^ b', by rw [hshl], rfl, rfl, HS.out, ?_, rfl⟩
          rw [← HP.out]
          show _ = p' ^^^ ((if a'.msb then b' else 0#32) ^^^ M.act m (a' <<< 1) (M.D b'))
          rw [HM.out, if_pos rfl, BitVec.xor_assoc]

/-- The cell of the closure. -/
def Cell (w : World) (g : Nat) (x : M.V) : Prop := w.heap[g]? = some (.cells #[.int .u32 (N x)] 23 (0, 0))

set_option maxHeartbeats 1000000 in
theorem next_any (g : Nat) (x : M.V) (w : World) (hc : Cell w g x) : Calls Tryd.prog 28 #[.pointer (some ⟨g, 0, none⟩)] w fun e w' => e = .returned (.int .u32 (N x)) ∧ Hid (Cell w' g (M.mul x x) ∧ Touch (fun k => k = g) w w') := by
  have c0 : w.cell? ⟨g, 0, none⟩ = some (.int .u32 (N x)) := cell_of_row w g 0 _ _ _ hc
  have hf : w.frozen? ⟨g, 0, none⟩ = false := frozen_of_row w g 0 _ 23 hc
  have HC := hid hc
  clear hc
  go_enter Tryd.func28, Tryd.ntmps28
  go_wp2_with (go_at_call 22; refine (times_any _ _ _).mono ?_; rintro e _ ⟨rfl, hw⟩; rw [hw]; clear hw)
  go_ret
  exact ⟨rfl, heap_setCell_same w _ 0 _ 23 _ HC.out, (Touch.refl (fun k => k = g) w).setCell (p := ⟨g, 0, none⟩) (fun _ => rfl) _⟩

set_option maxHeartbeats 1000000 in
theorem doubling_any (w : World) : Calls Tryd.prog 27 #[] w fun e w' => e = .returned (.func (.func 28) #[] #[.pointer (some ⟨w.heap.size, 0, none⟩)]) ∧ w' = w.alloc (.cells #[.int .u32 8388608] 23) := by
  go_enter Tryd.func27, Tryd.ntmps27
  go_wp2
  go_ret
  exact ⟨rfl, rfl⟩

theorem and_low (r : Nat) : bits .and .i64 (r : Int) 1 = ((r % 2 : Nat) : Int) := by
  show IntKind.i64.wrap ((BitVec.ofInt 64 (r : Int) &&& BitVec.ofInt 64 1).toNat : Int) = _
  have e : (BitVec.ofInt 64 (r : Int) &&& BitVec.ofInt 64 1).toNat = r % 2 := by
    rw [BitVec.toNat_and, show (BitVec.ofInt 64 1).toNat = 1 by decide, Nat.and_one_is_mod]
    simp
  rw [e, IntKind.wrap_i64]
  omega
theorem half_r (r : Nat) : ((r : Int) / 2) = ((r / 2 : Nat) : Int) := by omega

set_option maxRecDepth 100000 in
set_option maxHeartbeats 1000000 in
theorem power_any (n : Int) (hn : n ≤ 9223372036854775807) (w : World) : Calls Tryd.prog 23 #[.int .i64 n] w fun e w' => e = .returned (.int .u32 (N (M.Dn (8 * n.toNat) M.one))) ∧ Adds w w' := by
  have HNN := hid hn
  clear hn
  go_enter Tryd.func23, Tryd.ntmps23
  go_wp2_with (go_at_call 27; refine (doubling_any _).mono ?_; rintro e _ ⟨rfl, hw⟩; rw [hw]; clear hw)
  go_loopw [0, 3] (fun x p wr => ∃ (r i j : Nat), (x = .int .i64 (r : Int) ∨ (r = 0 ∧ x = .int .i64 n ∧ n ≤ 0)) ∧ p = .int .u32 (N (M.Dn (8 * i) M.one)) ∧ Hid (i + j * r = n.toNat ∧ r ≤ 9223372036854775807 ∧ Cell wr w.heap.size (M.Dn (8 * j) M.one) ∧ Adds w wr)) (fun x _ _ => (intOf x).toNat)
  case atStart =>
    refine ⟨n.toNat, 0, 1, ?_, rfl, by omega, by have := HNN.out; omega, ?_, (Touch.refl _ w).alloc _⟩
    · by_cases h : 0 ≤ n
      · left; rw [Int.toNat_of_nonneg h]
      · right; exact ⟨by omega, rfl, by omega⟩
    · exact heap_alloc_new w _
  case round =>
    obtain ⟨r, i, j, hx, rfl, HH⟩ := hrel
    rcases hx with rfl | ⟨rfl, rfl, hneg⟩
    · by_cases h0 : r = 0
      · subst h0
        go_wp2
        go_ret
        refine ⟨?_, HH.out.2.2.2⟩
        have := HH.out.1
        rw [← this, Nat.mul_zero, Nat.add_zero]; rfl
      · have hr := HH.out.2.1
        have hl := and_low r
        have hpos : 0 < r := by omega
        have HW := hid (show M.mul (M.Dn (8 * i) M.one) (M.Dn (8 * j) M.one) = M.Dn (8 * (i + j)) M.one by rw [M.mul_Dn, M.Dn_add]; congr 1; omega)
        have HP := hid (show M.mul (M.Dn (8 * j) M.one) (M.Dn (8 * j) M.one) = M.Dn (8 * (2 * j)) M.one by rw [M.mul_Dn, M.Dn_add]; congr 1; omega)
        by_cases hodd : r % 2 = 1
        · rw [hodd] at hl
          have HJ := hid (show i + j + 2 * j * (r / 2) = n.toNat by
            have e : r = 1 + 2 * (r / 2) := by omega
            have := HH.out.1
            rw [← this]
            conv => rhs; rw [e]
            rw [Nat.mul_add, Nat.mul_one, ← Nat.add_assoc, Nat.mul_comm 2 j, Nat.mul_assoc])
          clear hodd h0
          go_wp2_with (first
            | (go_at_call 28; refine (next_any w.heap.size _ _ HH.out.2.2.1).mono ?_; rintro e w2 ⟨rfl, H2⟩)
            | (go_at_call 22; refine (times_any _ _ _).mono ?_; rintro e _ ⟨rfl, hw⟩; rw [hw]; clear hw))
          go_roundw
          case rel =>
            refine ⟨r / 2, i + j, 2 * j, .inl (by go_num), by rw [HW.out], HJ.out, by omega, ?_, ?_⟩
            · rw [← HP.out]; exact H2.out.1
            · exact HH.out.2.2.2.then H2.out.2 (fun k hk e => by omega)
          case measure => simp [intOf]; omega
        · have hev : r % 2 = 0 := by omega
          rw [hev] at hl
          have HJ := hid (show i + 2 * j * (r / 2) = n.toNat by
            have e : r = 2 * (r / 2) := by omega
            have := HH.out.1
            rw [← this]
            conv => rhs; rw [e]
            rw [Nat.mul_comm 2 j, Nat.mul_assoc])
          clear hodd h0 hev
          go_wp2_with (first
            | (go_at_call 28; refine (next_any w.heap.size _ _ HH.out.2.2.1).mono ?_; rintro e w2 ⟨rfl, H2⟩)
            | (go_at_call 22; refine (times_any _ _ _).mono ?_; rintro e _ ⟨rfl, hw⟩; rw [hw]; clear hw))
          go_roundw
          case rel =>
            refine ⟨r / 2, i, 2 * j, .inl (by go_num), rfl, HJ.out, by omega, ?_, ?_⟩
            · rw [← HP.out]; exact H2.out.1
            · exact HH.out.2.2.2.then H2.out.2 (fun k hk e => by omega)
          case measure => simp [intOf]; omega
    · go_wp2
      go_ret
      refine ⟨?_, HH.out.2.2.2⟩
      have := HH.out.1
      rw [← this, Nat.mul_zero, Nat.add_zero]; rfl
end Go.Proofs.YtikeplkbiajcgaaDoor
