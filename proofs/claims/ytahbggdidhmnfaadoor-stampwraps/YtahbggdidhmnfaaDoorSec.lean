/- A sector in memory, and its parts. -/
import Derived.Test.YtahbggdidhmnfaaDoorSMath
import Derived.BigQuiet
import Derived.Deep.Cut
namespace Go.Proofs.YtahbggdidhmnfaaDoor
open Go.RowKit

/-- A pointer to block p. -/
abbrev Ptr (p : Nat) : Value := .pointer (some ⟨p, 0, none⟩)
/-- An answer; nothing that was there has turned. -/
def Adding (v : Value) (w : World) (e : Ending) (w' : World) : Prop := e = .returned v ∧ Adds w w'
/-- A sector in block g. -/
structure Sec (w : World) (g : Nat) (cs : List UInt8) : Prop where
  len : cs.length = 256
  box : w.heap[g]? = some (.cells (S cs).toArray 43 (0, 0))
theorem Sec.cell {w : World} {g : Nat} {cs : List UInt8} (h : Sec w g cs) {j : Nat} {c : UInt8} (hj : cs[j]? = some c) : w.cell? ⟨g, j, none⟩ = some (.int .u8 (c.toNat : Int)) := by
  rw [cellOf h.box j, List.getElem?_toArray, S_get, hj]; rfl
theorem Sec.frozen {w : World} {g : Nat} {cs : List UInt8} (h : Sec w g cs) (j : Nat) : w.frozen? ⟨g, j, none⟩ = false := frozen_of_row w g j _ 43 h.box
theorem Sec.at {w : World} {g : Nat} {cs : List UInt8} (h : Sec w g cs) : At w (some ⟨g, 0, none⟩) cs :=
  fun j c hj => ⟨g, 0, rfl, by rw [Nat.zero_add]; exact h.cell hj⟩
theorem Sec.part {w : World} {g : Nat} {cs : List UInt8} (h : Sec w g cs) (o n : Nat) : At w (some ⟨g, o, none⟩) ((cs.drop o).take n) := by
  have := (h.at.suf o).pre n
  rwa [Nat.zero_add] at this
theorem Sec.pre {w : World} {g : Nat} {cs : List UInt8} (h : Sec w g cs) (n : Nat) : At w (some ⟨g, 0, none⟩) (cs.take n) := h.at.pre n
theorem Sec.lt {w : World} {g : Nat} {cs : List UInt8} (h : Sec w g cs) : g < w.heap.size := lt_of_heap h.box
theorem Sec.adds {w w' : World} {g : Nat} {cs : List UInt8} (h : Sec w g cs) (hA : Adds w w') : Sec w' g cs := ⟨h.len, by rw [hA.block g h.lt id]; exact h.box⟩
theorem Sec.set {w : World} {g : Nat} {cs : List UInt8} (h : Sec w g cs) (j : Nat) (c : UInt8) : Sec (w.setCell ⟨g, j, none⟩ (.int .u8 (c.toNat : Int))) g (cs.set j c) :=
  ⟨by rw [List.length_set]; exact h.len, by rw [heap_setCell_same w g j _ 43 _ h.box, S_set]⟩

theorem u43 : Tryd.prog.underlying 43 = some (.array (Tryd.prog.arrayLen 43) (Tryd.prog.elem 43)) := by kernel_rfl
theorem l43 : Tryd.prog.arrayLen 43 = 256 := by kernel_rfl
theorem e43 : Tryd.prog.elem 43 = 5 := by kernel_rfl
theorem sz5 (w : World) : (sizeOf 5).run Tryd.prog w = .ok 1 w := by kernel_rfl
theorem slice43 (g l h m : Nat) (h1 : l ≤ h) (h2 : h ≤ m) (h3 : m ≤ 256) (w : World) :
    (Instr.sliceAt 43 (.pointer (some ⟨g, 0, none⟩)) (some (.int .i64 (l : Int))) (some (.int .i64 (h : Int))) (some (.int .i64 (m : Int)))).run Tryd.prog w = .ok (.slice (some ⟨g, if m = l then 0 else l, none⟩) (h - l) (m - l)) w := by
  rw [run_sliceAt_array_lhm (P := Tryd.prog) w 43 ⟨g, 0, none⟩ u43 .i64 .i64 .i64 (l : Int) (h : Int) (m : Int) (by omega) (by omega) (by omega) (by rw [l43]; omega), e43, sz5]
  simp only [Result.andThen, slicedAt, Int.toNat_natCast, Nat.mul_one]
  by_cases hc : m = l
  · rw [if_pos hc, if_pos hc]
  · rw [if_neg hc, if_neg hc, Addr.add_mid, Nat.zero_add]
theorem slice43h (g h m : Nat) (h2 : h ≤ m) (h3 : m ≤ 256) (w : World) :
    (Instr.sliceAt 43 (.pointer (some ⟨g, 0, none⟩)) none (some (.int .i64 (h : Int))) (some (.int .i64 (m : Int)))).run Tryd.prog w = .ok (.slice (some ⟨g, 0, none⟩) h m) w := by
  rw [run_sliceAt_array_hm (P := Tryd.prog) w 43 ⟨g, 0, none⟩ u43 .i64 .i64 (h : Int) (m : Int) (by omega) (by omega) (by rw [l43]; omega), e43, sz5]
  simp only [Result.andThen, slicedAt, Int.toNat_natCast, Nat.mul_one, Nat.sub_zero]
  by_cases hc : m = 0
  · rw [if_pos hc]
  · rw [if_neg hc, Addr.add_mid]
theorem slice43a (g : Nat) (w : World) : (Instr.sliceAt 43 (.pointer (some ⟨g, 0, none⟩)) none none none).run Tryd.prog w = .ok (.slice (some ⟨g, 0, none⟩) 256 256) w := by
  rw [run_sliceAt_array_all (P := Tryd.prog) w 43 ⟨g, 0, none⟩ u43, e43, sz5, l43]
  rfl

set_option maxHeartbeats 400000 in
theorem first_any (g : Nat) (w : World) : Calls Tryd.prog 15 #[Ptr g] w (Tells (.slice (some ⟨g, 0, none⟩) 8 8) w) := by
  have hs := slice43h g 8 8 (by decide) (by decide)
  go_enter Tryd.func15, Tryd.ntmps15
  go_wp2
  go_ret
  exact ⟨rfl, rfl⟩
set_option maxHeartbeats 400000 in
theorem last_any (g : Nat) (w : World) : Calls Tryd.prog 21 #[Ptr g] w (Tells (.slice (some ⟨g, 248, none⟩) 8 8) w) := by
  have hs := slice43 g 248 256 256 (by decide) (by decide) (by decide)
  go_enter Tryd.func21, Tryd.ntmps21
  go_wp2
  go_ret
  exact ⟨rfl, rfl⟩
set_option maxHeartbeats 400000 in
theorem summed_any (g : Nat) (w : World) : Calls Tryd.prog 20 #[Ptr g] w (Tells (.slice (some ⟨g, 0, none⟩) 244 244) w) := by
  have hs := slice43h g 244 244 (by decide) (by decide)
  go_enter Tryd.func20, Tryd.ntmps20
  go_wp2
  go_ret
  exact ⟨rfl, rfl⟩
set_option maxHeartbeats 400000 in
theorem sealed_any (g : Nat) (w : World) : Calls Tryd.prog 18 #[Ptr g] w (Tells (.slice (some ⟨g, 0, none⟩) 248 248) w) := by
  have hs := slice43h g 248 248 (by decide) (by decide)
  go_enter Tryd.func18, Tryd.ntmps18
  go_wp2
  go_ret
  exact ⟨rfl, rfl⟩
set_option maxHeartbeats 400000 in
theorem room_any (g : Nat) (w : World) : Calls Tryd.prog 17 #[Ptr g] w (Tells (.slice (some ⟨g, 10, none⟩) 234 234) w) := by
  have hs := slice43 g 10 244 244 (by decide) (by decide) (by decide)
  go_enter Tryd.func17, Tryd.ntmps17
  go_wp2
  go_ret
  exact ⟨rfl, rfl⟩
theorem get_of {cs : List UInt8} {j : Nat} (h : j < cs.length) : cs[j]? = some (cs.getD j 0) := by
  rw [List.getD_eq_getElem?_getD, List.getElem?_eq_getElem h]; rfl
set_option maxHeartbeats 400000 in
theorem bodyEnd_any (g : Nat) (cs : List UInt8) (w : World) (h : Sec w g cs) : Calls Tryd.prog 41 #[Ptr g] w (Tells (.int .i64 ((10 + M.lenOf cs : Nat) : Int)) w) := by
  have hc := h.cell (get_of (j := 9) (by rw [h.len]; decide))
  have hl := (cs.getD 9 0).toNat_lt
  have HN := hid (show M.lenOf cs = (cs.getD 9 0).toNat from rfl)
  clear h
  generalize (cs.getD 9 0) = c at *
  go_enter Tryd.func41, Tryd.ntmps41
  go_wp2
  go_ret
  exact ⟨by rw [HN.out]; first | rfl | simp, rfl⟩
set_option maxHeartbeats 1000000 in
theorem stamp_any (g : Nat) (cs : List UInt8) (w : World) (h : Sec w g cs) : Calls Tryd.prog 25 #[Ptr g] w (Adding (.int .u64 (M.unfix (cs.take 8) : Int)) w) := by
  have H1 := hid (first_any g w)
  have hl8 : (cs.take 8).length = 8 := by rw [List.length_take, h.len]; rfl
  have HR := hid (read_any (some ⟨g, 0, none⟩) (cs.take 8) 8 w (by omega) (fun e => by cases e) (h.pre 8))
  rw [hl8] at HR
  have HF := hid (show M.fixedR 8 ⟨0, cs.take 8⟩ = (M.unfix (cs.take 8), ⟨0, []⟩) by
    rw [M.fixedR, show M.clamp 8 = 8 from rfl, M.takeR_ok rfl (by show ¬ (cs.take 8).length < 8; omega)]
    show (M.unfix ((cs.take 8).take 8), (⟨0, (cs.take 8).drop 8⟩ : M.St)) = _
    rw [List.take_of_length_le (by omega), List.drop_eq_nil_of_le (by omega)])
  clear h hl8
  go_enter Tryd.func25, Tryd.ntmps25
  go_wp2_with (first
    | (go_at_call 15; refine H1.out.mono ?_; rintro e _ ⟨rfl, hw⟩; rw [hw]; clear hw)
    | (go_at_call 39; refine HR.out.mono ?_; rintro e w1 ⟨p, rfl, h1, h2, h3⟩; have Q1 := hid (And.intro h1 (And.intro h2 h3)); clear h1 h2 h3)
    | (go_at_call 40; refine (fixed_any 8 Q1.out.2.1).mono ?_; rintro e w2 ⟨rfl, h1, h2⟩; have Q2 := hid (And.intro h1 h2); clear h1 h2))
  go_ret
  exact ⟨by rw [HF.out]; rfl, Adds.own Q1.out.2.2 Q2.out.2 Q1.out.1⟩
end Go.Proofs.YtahbggdidhmnfaaDoor
