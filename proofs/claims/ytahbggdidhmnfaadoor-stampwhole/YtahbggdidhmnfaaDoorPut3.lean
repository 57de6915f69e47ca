/- PutFixed, PutFloat. -/
import Derived.Test.YtahbggdidhmnfaaDoorPut2
namespace Go.Proofs.YtahbggdidhmnfaaDoor
open Go.RowKit

namespace M
set_option maxRecDepth 100000 in
theorem fix_head (k : Nat) : ∀ n, fix n (k + 1) = UInt8.ofNat (n / 256 ^ k % 256) :: fix n k := by
  induction k with
  | zero => intro n; simp [fix]
  | succ k ih =>
    intro n
    rw [fix, ih (n / 256), fix, List.cons_append, Nat.div_div_eq_div_mul, ← Nat.pow_succ']
/-- Eight bytes, of which k are laid. -/
def row (n k : Nat) : List UInt8 := List.replicate (8 - k) 0 ++ fix n k
set_option maxRecDepth 100000 in
theorem len_row (n k : Nat) (h : k ≤ 8) : (row n k).length = 8 := by rw [row, List.length_append, List.length_replicate, len_fix]; omega
set_option maxRecDepth 100000 in
theorem row_set (n k : Nat) (h : k < 8) : (row n k).set (7 - k) (UInt8.ofNat (n / 256 ^ k % 256)) = row n (k + 1) := by
  rw [row, row, fix_head, show 8 - k = (7 - k) + 1 by omega, show 8 - (k + 1) = 7 - k by omega, List.replicate_succ', List.append_assoc]
  rw [List.set_append_right _ _ (by simp)]
  simp
end M
set_option maxRecDepth 100000 in
theorem S_set (bs : List UInt8) (j : Nat) (c : UInt8) : (S bs).toArray.setIfInBounds j (.int .u8 (c.toNat : Int)) = (S (bs.set j c)).toArray := by
  rw [List.setIfInBounds_toArray, S, S, List.map_set]
  rfl
set_option maxRecDepth 100000 in
theorem byte_shift (n k : Nat) : (n : Int) / 2 ^ (8 * k) % 256 = ((UInt8.ofNat (n / 256 ^ k % 256)).toNat : Int) := by
  rw [M.ofNat_toNat _ (by omega), show 256 ^ k = 2 ^ (8 * k) by rw [Nat.pow_mul]]
  simp
set_option maxRecDepth 100000 in
theorem M.fix_drop (n q d : Nat) : (M.fix n (q + d)).drop d = M.fix n q := by
  induction d with
  | zero => rfl
  | succ d ih => rw [show q + (d + 1) = (q + d) + 1 by omega, M.fix_head, List.drop_succ_cons]; exact ih
set_option maxRecDepth 100000 in
theorem slice66 (g q : Nat) (hq : q ≤ 8) (w : World) : (Instr.sliceAt 57 (.pointer (some ⟨g, 0, none⟩)) (some (.int .i64 (8 - (q : Int)))) none none).run Tryd.prog w = .ok (.slice (some ⟨g, if q = 0 then 0 else 8 - q, none⟩) q q) w := by
  obtain ⟨i0, hi, hz0, hz1, hz2⟩ := info5all
  have hl : Tryd.prog.arrayLen 57 = 8 := by kernel_rfl
  have he : Tryd.prog.elem 57 = 5 := by kernel_rfl
  have e2 : (8 - (q : Int)).toNat = 8 - q := by omega
  rw [run_sliceAt_array_l (P := Tryd.prog) w 57 ⟨g, 0, none⟩ (by rw [hl, he]; exact Tryd.underlying57) .i64 (8 - (q : Int)) (by omega) (by rw [hl]; omega), he, hl, e2]
  simp only [sizeOf, typeInfo, Sem.run_bind, Sem.run_pure, Result.andThen, slicedAt]
  simp [hi, hz1]
  by_cases h0 : q = 0
  · subst h0; simp
  · rw [if_neg (by omega), if_neg h0, show 8 - (8 - q) = q by omega, Addr.add_mid]
    simp
set_option maxRecDepth 100000 in
set_option maxHeartbeats 1000000 in
theorem putFixed_any (a : Option Addr) (bs : List UInt8) (cap n : Nat) (z : Int) (w : World) (hl : bs.length ≤ 1000000) (hcap : a = none → cap = 0) (hA : At w a bs) : Calls Tryd.prog 16 #[.slice a bs.length cap, .int .u64 (n : Int), .int .i64 z] w (POwn w (bs ++ M.fix n (M.clamp z))) := by
  have HL := hid hl
  have HA := hid (And.intro hA hcap)
  clear hA hl hcap
  go_enter Tryd.func16, Tryd.ntmps16
  go_wp2
  go_loopw [9] (fun i wz => ∃ k : Nat, k ≤ 8 ∧ i = .int .i64 (k : Int) ∧ Hid (wz.heap[w.heap.size]? = some (.cells (S (M.row n k)).toArray 57 (0, 0)) ∧ Adds w wz)) (fun i _ => 8 - (intOf i).toNat)
  case atStart => exact ⟨0, by omega, rfl, heap_alloc_new w _, (Touch.refl _ w).alloc _⟩
  case round =>
    obtain ⟨k, hk, rfl, HI⟩ := hrel
    by_cases h8 : k < 8
    · obtain ⟨c, hc⟩ : ∃ c, c = UInt8.ofNat (n / 256 ^ k % 256) := ⟨_, rfl⟩
      have hby := byte_shift n k
      rw [← hc] at hby
      obtain ⟨x, hx⟩ : ∃ x, (M.row n k)[7 - k]? = some x := ⟨_, List.getElem?_eq_getElem (by rw [M.len_row n k hk]; omega)⟩
      have hcell : wr.cell? ⟨w.heap.size, 7 - k, none⟩ = some (.int .u8 (x.toNat : Int)) := by rw [cellOf HI.out.1 (7 - k), List.getElem?_toArray, S_get, hx]; rfl
      have hfr : wr.frozen? ⟨w.heap.size, 7 - k, none⟩ = false := frozen_of_row wr _ _ _ 57 HI.out.1
      have HN := hid (show (wr.setCell ⟨w.heap.size, 7 - k, none⟩ (.int .u8 (c.toNat : Int))).heap[w.heap.size]? = some (.cells (S (M.row n (k + 1))).toArray 57 (0, 0)) by
        rw [heap_setCell_same wr _ (7 - k) _ 57 _ HI.out.1, S_set, hc, M.row_set n k h8])
      clear hc hx
      go_wp2
      go_roundw
      case rel => exact ⟨k + 1, by omega, by go_num, HN.out, HI.out.2.setCell (fun h => absurd h (Nat.lt_irrefl _)) _⟩
      case measure => simp [intOf]; omega
    · obtain rfl : k = 8 := by omega
      have H1 := hid (within_any z wr)
      have hc8 := M.clamp_le z
      generalize hq : M.clamp z = q at *
      have HAt := hid (show At wr (some ⟨w.heap.size, 0, none⟩) (M.fix n 8) by
        intro j c hj
        refine ⟨_, _, rfl, ?_⟩
        rw [Nat.zero_add, cellOf HI.out.1 j, List.getElem?_toArray, S_get]
        rw [show M.row n 8 = M.fix n 8 by simp [M.row], hj]; rfl)
      have HAq := hid (show At wr (some ⟨w.heap.size, if q = 0 then 0 else 8 - q, none⟩) (M.fix n q) by
        by_cases h0 : q = 0
        · subst h0; exact At.nil _ _
        · rw [if_neg h0]
          have h := HAt.out.suf (8 - q)
          rw [Nat.zero_add] at h
          have e := M.fix_drop n q (8 - q)
          rw [show q + (8 - q) = 8 by omega] at e
          rw [e] at h; exact h)
      have hlq := M.len_fix q n
      have hsl := slice66 w.heap.size q hc8 wr
      generalize (if q = 0 then 0 else 8 - q) = oq at *
      have HC := hid (concat_two (w := wr) ⟨a, bs, cap⟩ ⟨some ⟨w.heap.size, oq, none⟩, M.fix n q, q⟩ (HA.out.1.adds HI.out.2) HAq.out HA.out.2 (fun e => by cases e) (by have := HL.out; simp; omega))
      simp only [hlq] at HC
      clear hq hlq
      go_wp2_with (first
        | (go_at_call 31; refine H1.out.mono ?_; rintro e w' ⟨rfl, rfl⟩)
        | (go_at_call 30; refine HC.out.mono ?_; rintro e w2 ⟨v2, rfl, h1, h2⟩; have HZ := hid (And.intro h1 h2); clear h1 h2))
      go_ret
      exact ⟨_, rfl, own_base HZ.out.1 HI.out.2.size, HI.out.2.trans HZ.out.2⟩
end Go.Proofs.YtahbggdidhmnfaaDoor
