/- Texts put together: Sec, Sec2, Refuse, Copy, SWrap, SOpen. -/
import Derived.Test.YtmmgfankbabfbaaDoorQ06
import Derived.BigQuiet
import Derived.Deep.Cut
/- A sector in memory, and its parts. -/
namespace Go.Proofs.YtmmgfankbabfbaaDoor
open Go.RowKit

/-- A pointer to block p. -/
abbrev Ptr (p : Nat) : Value := .pointer (some ⟨p, 0, none⟩)
/-- An answer; nothing that was there has turned. -/
def Adding (v : Value) (w : World) (e : Ending) (w' : World) : Prop := e = .returned v ∧ Adds w w'
/-- A sector in block g. -/
structure Sec (w : World) (g : Nat) (cs : List UInt8) : Prop where
  len : cs.length = 256
  box : w.heap[g]? = some (.cells (S cs).toArray 122 (0, 0))
theorem Sec.cell {w : World} {g : Nat} {cs : List UInt8} (h : Sec w g cs) {j : Nat} {c : UInt8} (hj : cs[j]? = some c) : w.cell? ⟨g, j, none⟩ = some (.int .u8 (c.toNat : Int)) := by
  rw [cellOf h.box j, List.getElem?_toArray, S_get, hj]; rfl
theorem Sec.frozen {w : World} {g : Nat} {cs : List UInt8} (h : Sec w g cs) (j : Nat) : w.frozen? ⟨g, j, none⟩ = false := frozen_of_row w g j _ 122 h.box
theorem Sec.at {w : World} {g : Nat} {cs : List UInt8} (h : Sec w g cs) : At w (some ⟨g, 0, none⟩) cs :=
  fun j c hj => ⟨g, 0, rfl, by rw [Nat.zero_add]; exact h.cell hj⟩
theorem Sec.part {w : World} {g : Nat} {cs : List UInt8} (h : Sec w g cs) (o n : Nat) : At w (some ⟨g, o, none⟩) ((cs.drop o).take n) := by
  have := (h.at.suf o).pre n
  rwa [Nat.zero_add] at this
theorem Sec.pre {w : World} {g : Nat} {cs : List UInt8} (h : Sec w g cs) (n : Nat) : At w (some ⟨g, 0, none⟩) (cs.take n) := h.at.pre n
theorem Sec.lt {w : World} {g : Nat} {cs : List UInt8} (h : Sec w g cs) : g < w.heap.size := lt_of_heap h.box
theorem Sec.adds {w w' : World} {g : Nat} {cs : List UInt8} (h : Sec w g cs) (hA : Adds w w') : Sec w' g cs := ⟨h.len, by rw [hA.block g h.lt id]; exact h.box⟩
theorem Sec.set {w : World} {g : Nat} {cs : List UInt8} (h : Sec w g cs) (j : Nat) (c : UInt8) : Sec (w.setCell ⟨g, j, none⟩ (.int .u8 (c.toNat : Int))) g (cs.set j c) :=
  ⟨by rw [List.length_set]; exact h.len, by rw [heap_setCell_same w g j _ 122 _ h.box, S_set]⟩

theorem u43 : Tryd.prog.underlying 122 = some (.array (Tryd.prog.arrayLen 122) (Tryd.prog.elem 122)) := by kernel_rfl
theorem l43 : Tryd.prog.arrayLen 122 = 256 := by kernel_rfl
theorem e43 : Tryd.prog.elem 122 = 5 := by kernel_rfl
theorem sz5 (w : World) : (sizeOf 5).run Tryd.prog w = .ok 1 w := by kernel_rfl
theorem slice43 (g l h m : Nat) (h1 : l ≤ h) (h2 : h ≤ m) (h3 : m ≤ 256) (w : World) :
    (Instr.sliceAt 122 (.pointer (some ⟨g, 0, none⟩)) (some (.int .i64 (l : Int))) (some (.int .i64 (h : Int))) (some (.int .i64 (m : Int)))).run Tryd.prog w = .ok (.slice (some ⟨g, if m = l then 0 else l, none⟩) (h - l) (m - l)) w := by
  rw [run_sliceAt_array_lhm (P := Tryd.prog) w 122 ⟨g, 0, none⟩ u43 .i64 .i64 .i64 (l : Int) (h : Int) (m : Int) (by omega) (by omega) (by omega) (by rw [l43]; omega), e43, sz5]
  simp only [Result.andThen, slicedAt, Int.toNat_natCast, Nat.mul_one]
  by_cases hc : m = l
  · rw [if_pos hc, if_pos hc]
  · rw [if_neg hc, if_neg hc, Addr.add_mid, Nat.zero_add]
theorem slice43h (g h m : Nat) (h2 : h ≤ m) (h3 : m ≤ 256) (w : World) :
    (Instr.sliceAt 122 (.pointer (some ⟨g, 0, none⟩)) none (some (.int .i64 (h : Int))) (some (.int .i64 (m : Int)))).run Tryd.prog w = .ok (.slice (some ⟨g, 0, none⟩) h m) w := by
  rw [run_sliceAt_array_hm (P := Tryd.prog) w 122 ⟨g, 0, none⟩ u43 .i64 .i64 (h : Int) (m : Int) (by omega) (by omega) (by rw [l43]; omega), e43, sz5]
  simp only [Result.andThen, slicedAt, Int.toNat_natCast, Nat.mul_one, Nat.sub_zero]
  by_cases hc : m = 0
  · rw [if_pos hc]
  · rw [if_neg hc, Addr.add_mid]
theorem slice43a (g : Nat) (w : World) : (Instr.sliceAt 122 (.pointer (some ⟨g, 0, none⟩)) none none none).run Tryd.prog w = .ok (.slice (some ⟨g, 0, none⟩) 256 256) w := by
  rw [run_sliceAt_array_all (P := Tryd.prog) w 122 ⟨g, 0, none⟩ u43, e43, sz5, l43]
  rfl

set_option maxHeartbeats 400000 in
theorem first_any (g : Nat) (w : World) : Calls Tryd.prog 58 #[Ptr g] w (Tells (.slice (some ⟨g, 0, none⟩) 8 8) w) := by
  have hs := slice43h g 8 8 (by decide) (by decide)
  go_enter Tryd.func58, Tryd.ntmps58
  go_wp2
  go_ret
  exact ⟨rfl, rfl⟩
set_option maxHeartbeats 400000 in
theorem last_any (g : Nat) (w : World) : Calls Tryd.prog 64 #[Ptr g] w (Tells (.slice (some ⟨g, 248, none⟩) 8 8) w) := by
  have hs := slice43 g 248 256 256 (by decide) (by decide) (by decide)
  go_enter Tryd.func64, Tryd.ntmps64
  go_wp2
  go_ret
  exact ⟨rfl, rfl⟩
set_option maxHeartbeats 400000 in
theorem summed_any (g : Nat) (w : World) : Calls Tryd.prog 63 #[Ptr g] w (Tells (.slice (some ⟨g, 0, none⟩) 244 244) w) := by
  have hs := slice43h g 244 244 (by decide) (by decide)
  go_enter Tryd.func63, Tryd.ntmps63
  go_wp2
  go_ret
  exact ⟨rfl, rfl⟩
set_option maxHeartbeats 400000 in
theorem sealed_any (g : Nat) (w : World) : Calls Tryd.prog 61 #[Ptr g] w (Tells (.slice (some ⟨g, 0, none⟩) 248 248) w) := by
  have hs := slice43h g 248 248 (by decide) (by decide)
  go_enter Tryd.func61, Tryd.ntmps61
  go_wp2
  go_ret
  exact ⟨rfl, rfl⟩
set_option maxHeartbeats 400000 in
theorem room_any (g : Nat) (w : World) : Calls Tryd.prog 60 #[Ptr g] w (Tells (.slice (some ⟨g, 10, none⟩) 234 234) w) := by
  have hs := slice43 g 10 244 244 (by decide) (by decide) (by decide)
  go_enter Tryd.func60, Tryd.ntmps60
  go_wp2
  go_ret
  exact ⟨rfl, rfl⟩
theorem get_of {cs : List UInt8} {j : Nat} (h : j < cs.length) : cs[j]? = some (cs.getD j 0) := by
  rw [List.getD_eq_getElem?_getD, List.getElem?_eq_getElem h]; rfl
set_option maxHeartbeats 400000 in
theorem bodyEnd_any (g : Nat) (cs : List UInt8) (w : World) (h : Sec w g cs) : Calls Tryd.prog 96 #[Ptr g] w (Tells (.int .i64 ((10 + M.lenOf cs : Nat) : Int)) w) := by
  have hc := h.cell (get_of (j := 9) (by rw [h.len]; decide))
  have hl := (cs.getD 9 0).toNat_lt
  have HN := hid (show M.lenOf cs = (cs.getD 9 0).toNat from rfl)
  clear h
  generalize (cs.getD 9 0) = c at *
  go_enter Tryd.func96, Tryd.ntmps96
  go_wp2
  go_ret
  exact ⟨by rw [HN.out]; first | rfl | simp, rfl⟩
set_option maxHeartbeats 1000000 in
theorem stamp_any (g : Nat) (cs : List UInt8) (w : World) (h : Sec w g cs) : Calls Tryd.prog 75 #[Ptr g] w (Adding (.int .u64 (M.unfix (cs.take 8) : Int)) w) := by
  have H1 := hid (first_any g w)
  have hl8 : (cs.take 8).length = 8 := by rw [List.length_take, h.len]; rfl
  have HR := hid (read_any (some ⟨g, 0, none⟩) (cs.take 8) 8 w (by omega) (fun e => by cases e) (h.pre 8))
  rw [hl8] at HR
  have HF := hid (show M.fixedR 8 ⟨0, cs.take 8⟩ = (M.unfix (cs.take 8), ⟨0, []⟩) by
    rw [M.fixedR, show M.clamp 8 = 8 from rfl, M.takeR_ok rfl (by show ¬ (cs.take 8).length < 8; omega)]
    show (M.unfix ((cs.take 8).take 8), (⟨0, (cs.take 8).drop 8⟩ : M.St)) = _
    rw [List.take_of_length_le (by omega), List.drop_eq_nil_of_le (by omega)])
  clear h hl8
  go_enter Tryd.func75, Tryd.ntmps75
  go_wp2_with (first
    | (go_at_call 58; refine H1.out.mono ?_; rintro e _ ⟨rfl, hw⟩; rw [hw]; clear hw)
    | (go_at_call 55; refine HR.out.mono ?_; rintro e w1 ⟨p, rfl, h1, h2, h3⟩; have Q1 := hid (And.intro h1 (And.intro h2 h3)); clear h1 h2 h3)
    | (go_at_call 95; refine (fixed_any 8 Q1.out.2.1).mono ?_; rintro e w2 ⟨rfl, h1, h2⟩; have Q2 := hid (And.intro h1 h2); clear h1 h2))
  go_ret
  exact ⟨by rw [HF.out]; rfl, Adds.own Q1.out.2.2 Q2.out.2 Q1.out.1⟩
end Go.Proofs.YtmmgfankbabfbaaDoor

/- A sector's body and what is behind it; bytes.Equal; whether a byte is not 0. -/
namespace Go.Proofs.YtmmgfankbabfbaaDoor
open Go.RowKit

theorem adds_drewN (w : World) (n : Nat) : Adds w (w.drewN n) := ⟨rfl, rfl, rfl, Nat.le_refl _, fun _ _ _ => rfl⟩

set_option maxHeartbeats 1000000 in
theorem body_any (g : Nat) (cs : List UInt8) (w : World) (h : Sec w g cs) (hn : M.lenOf cs ≤ 233) : Calls Tryd.prog 76 #[Ptr g] w (Adding (.slice (some ⟨g, if M.lenOf cs = 0 then 0 else 10, none⟩) (M.lenOf cs) (M.lenOf cs)) w) := by
  obtain ⟨m, hm⟩ : ∃ m, m = 10 + M.lenOf cs := ⟨_, rfl⟩
  have hs : ∀ w, (Instr.sliceAt 122 (.pointer (some ⟨g, 0, none⟩)) (some (.int .i64 10)) (some (.int .i64 (m : Int))) (some (.int .i64 (m : Int)))).run Tryd.prog w = .ok (.slice (some ⟨g, if m = 10 then 0 else 10, none⟩) (m - 10) (m - 10)) w := fun w => slice43 g 10 m m (by omega) (by omega) (by omega) w
  have HB := hid (fun w' (hA : Adds w w') => bodyEnd_any g cs w' (h.adds hA))
  rw [← hm] at HB
  have HX := hid (show (.slice (some ⟨g, if m = 10 then 0 else 10, none⟩) (m - 10) (m - 10) : Value) = .slice (some ⟨g, if M.lenOf cs = 0 then 0 else 10, none⟩) (M.lenOf cs) (M.lenOf cs) by
    rw [show m - 10 = M.lenOf cs by omega]
    by_cases h0 : M.lenOf cs = 0
    · rw [if_pos h0, if_pos (by omega)]
    · rw [if_neg h0, if_neg (by omega)])
  have hm2 : m ≤ 243 := by omega
  have hm3 : 10 ≤ m := by omega
  rw [← HX.out]
  clear h hm
  generalize (if m = 10 then 0 else 10) = o at *
  go_enter Tryd.func76, Tryd.ntmps76
  go_upto_region 1 with (fail)
  go_quiet (first | (go_at_call 96; refine Calls.quiet_of_same (HB.out _ (adds_drewN _ _))))
  go_wp2
  go_ret
  exact ⟨rfl, adds_drewN _ _⟩
set_option maxHeartbeats 1000000 in
theorem behind_any (g : Nat) (cs : List UInt8) (w : World) (h : Sec w g cs) (hn : M.lenOf cs ≤ 233) : Calls Tryd.prog 93 #[Ptr g] w (Adding (.slice (some ⟨g, 10 + M.lenOf cs, none⟩) (234 - M.lenOf cs) (234 - M.lenOf cs)) w) := by
  obtain ⟨m, hm⟩ : ∃ m, m = 10 + M.lenOf cs := ⟨_, rfl⟩
  have hs : ∀ w, (Instr.sliceAt 122 (.pointer (some ⟨g, 0, none⟩)) (some (.int .i64 (m : Int))) (some (.int .i64 244)) (some (.int .i64 244))).run Tryd.prog w = .ok (.slice (some ⟨g, m, none⟩) (244 - m) (244 - m)) w := fun w => by
    have h := slice43 g m 244 244 (by omega) (by omega) (by omega) w
    rw [if_neg (by omega)] at h
    exact h
  have HB := hid (fun w' (hA : Adds w w') => bodyEnd_any g cs w' (h.adds hA))
  rw [← hm] at HB
  rw [← hm, show 234 - M.lenOf cs = 244 - m by omega]
  have hm2 : m ≤ 243 := by omega
  clear h hm
  go_enter Tryd.func93, Tryd.ntmps93
  go_upto_region 1 with (fail)
  go_quiet (first | (go_at_call 96; refine Calls.quiet_of_same (HB.out _ (adds_drewN _ _))))
  go_wp2
  go_ret
  exact ⟨rfl, adds_drewN _ _⟩

theorem str_eq (x y : List UInt8) : (x == y) = decide (x = y) := by
  by_cases h : x = y
  · subst h; simp
  · rw [decide_eq_false h, beq_eq_false_iff_ne]; exact h
set_option maxHeartbeats 400000 in
theorem equal_any (a : Option Addr) (xs : List UInt8) (c : Nat) (b : Option Addr) (ys : List UInt8) (d : Nat) (w : World) (hA : At w a xs) (hB : At w b ys) : Calls Tryd.prog 90 #[.slice a xs.length c, .slice b ys.length d] w (Tells (.bool (decide (xs = ys))) w) := by
  have h1 := conv_at w a xs c hA
  have h2 := conv_at w b ys d hB
  have HE := hid (str_eq xs ys)
  clear hA hB
  go_enter Tryd.func90, Tryd.ntmps90
  go_wp2
  go_ret
  exact ⟨by rw [← HE.out]; rfl, rfl⟩
set_option maxHeartbeats 400000 in
theorem not0_any (c : UInt8) (z : Bool) (hz : (c != 0) = z) (w : World) : Calls Tryd.prog 94 #[.int .u8 (c.toNat : Int)] w (Tells (.bool z) w) := by
  by_cases h : c = 0
  · subst h
    obtain rfl : false = z := hz
    go_enter Tryd.func94, Tryd.ntmps94
    go_wp2
    go_ret
    exact ⟨rfl, rfl⟩
  · obtain rfl : true = z := by rw [← hz]; simp [h]
    have hn : ¬ (c.toNat : Int) = 0 := by
      intro e
      exact h (UInt8.toNat_inj.1 (by simpa using (show c.toNat = 0 by omega)))
    go_enter Tryd.func94, Tryd.ntmps94
    go_wp2
    go_ret
    refine ⟨?_, rfl⟩
    show Ending.returned (.bool (!decide ((c.toNat : Int) = 0))) = _
    rw [decide_eq_false hn]; rfl
theorem some0_take {cs : List UInt8} {i : Nat} {c : UInt8} (h : cs[i]? = some c) (hI : M.some0 (cs.take i) = false) (hz : (c != 0) = false) : M.some0 (cs.take (i + 1)) = false := by
  unfold M.some0 at *
  rw [take_next h, List.any_append, hI]
  simp [hz]
theorem some0_yes {cs : List UInt8} {i : Nat} {c : UInt8} (h : cs[i]? = some c) (hz : (c != 0) = true) : M.some0 cs = true := by
  unfold M.some0
  rw [List.any_eq_true]
  exact ⟨c, List.mem_of_getElem? h, hz⟩
/-- A place, or none. -/
def PIdx (z : Bool) (w : World) (e : Ending) (w' : World) : Prop := ∃ n : Int, e = .returned (.int .i64 n) ∧ decide (0 ≤ n) = z ∧ w' = w
set_option maxRecDepth 100000 in
set_option maxHeartbeats 1000000 in
theorem index_any (a : Option Addr) (cs : List UInt8) (cap : Nat) (w : World) (hA : At w a cs) (hl : cs.length ≤ 1000) : Calls Tryd.prog 101 #[.slice a cs.length cap, .func (.func 94) #[] #[]] w (PIdx (M.some0 cs) w) := by
  have HA := hid hA
  clear hA
  go_enter Tryd.func101, Tryd.ntmps101
  go_wp2_with fail
  go_loopw [8] (fun iv wr => ∃ i : Nat, iv = .int .i64 (i : Int) ∧ i ≤ cs.length ∧ Hid (M.some0 (cs.take i) = false) ∧ wr = w) (fun iv _ => cs.length - (intOf iv).toNat)
  case atStart => exact ⟨0, rfl, Nat.zero_le _, hid (show M.some0 (cs.take 0) = false from rfl), rfl⟩
  case round =>
    obtain ⟨i, rfl, hi, HI, hw⟩ := hrel
    obtain rfl := hw.symm
    by_cases hlt : i < cs.length
    · have hltz : (i : Int) < (cs.length : Int) := by omega
      obtain ⟨c, hc⟩ : ∃ c, cs[i]? = some c := ⟨cs[i], List.getElem?_eq_getElem hlt⟩
      obtain ⟨b, o, ea, c0⟩ := HA.out i c hc
      subst ea
      obtain ⟨z, hz⟩ : ∃ z, (c != 0) = z := ⟨_, rfl⟩
      have HZ := hid (And.intro hz hc)
      have HC := hid (not0_any c z hz w)
      clear hz hc
      cases z with
      | false =>
        go_wp2_with (first | (go_at_call 94; refine HC.out.mono ?_; rintro e _ ⟨rfl, hw⟩; rw [hw]; clear hw))
        go_roundw
        case rel => exact ⟨i + 1, by go_num, by omega, some0_take HZ.out.2 HI.out HZ.out.1, by first | rfl | trivial⟩
        case measure => simp [intOf]; omega
      | true =>
        go_wp2_with (first | (go_at_call 94; refine HC.out.mono ?_; rintro e _ ⟨rfl, hw⟩; rw [hw]; clear hw))
        go_ret
        exact ⟨(i : Int), rfl, by rw [some0_yes HZ.out.2 HZ.out.1]; exact decide_eq_true (Int.natCast_nonneg i), rfl⟩
    · have hltz : ¬ (i : Int) < (cs.length : Int) := by omega
      have HN := hid (show M.some0 cs = false by have := HI.out; rw [List.take_of_length_le (by omega)] at this; exact this)
      go_wp2_with fail
      go_ret
      exact ⟨-1, rfl, by rw [HN.out]; rfl, rfl⟩
set_option maxHeartbeats 400000 in
theorem contains_any (a : Option Addr) (cs : List UInt8) (cap : Nat) (w : World) (hA : At w a cs) (hl : cs.length ≤ 1000) : Calls Tryd.prog 92 #[.slice a cs.length cap, .func (.func 94) #[] #[]] w (Tells (.bool (M.some0 cs)) w) := by
  have H := hid (index_any a cs cap w hA hl)
  clear hA
  go_enter Tryd.func92, Tryd.ntmps92
  go_wp2_with (first | (go_at_call 101; refine H.out.mono ?_; rintro e _ ⟨n, rfl, hn, hw⟩; rw [hw]; clear hw; have HN := hid hn; clear hn))
  go_ret
  exact ⟨by rw [← HN.out]; rfl, rfl⟩
end Go.Proofs.YtmmgfankbabfbaaDoor

/- Why a sector is not opened. -/
namespace Go.Proofs.YtmmgfankbabfbaaDoor
open Go.RowKit

theorem openErr_is {bs : List UInt8} (h : ¬ bs.length < 4) : openErr bs = 0 ∨ openErr bs = 20 := by
  rw [openErr, if_neg h]; split
  · exact .inl rfl
  · exact .inr rfl
theorem M.len_behind {cs : List UInt8} (h : cs.length = 256) : (M.behindOf cs).length = 234 - M.lenOf cs := by
  unfold M.behindOf; rw [List.length_drop, List.length_take, h]; omega
theorem Sec.behind {w : World} {g : Nat} {cs : List UInt8} (h : Sec w g cs) : At w (some ⟨g, 10 + M.lenOf cs, none⟩) (M.behindOf cs) := by
  have := (h.pre 244).suf (10 + M.lenOf cs)
  rwa [Nat.zero_add] at this
/-- An error behind an answer. -/
def POe (z : Int) (w : World) (e : Ending) (w' : World) : Prop := ∃ (a : Option Addr) (n cap : Nat), e = .returned (.tuple #[.slice a n cap, .int .i64 z]) ∧ Adds w w'

set_option maxRecDepth 100000 in
set_option maxHeartbeats 4000000 in
theorem refusal_any (g : Nat) (cs : List UInt8) (w : World) (h : Sec w g cs) (hT : Tab w) : Calls Tryd.prog 74 #[Ptr g] w (Adding (.int .i64 (M.oErr cs : Int)) w) := by
  have hl := h.len
  have l248 : (cs.take 248).length = 248 := by rw [List.length_take]; omega
  have l8 : (cs.take 8).length = 8 := by rw [List.length_take]; omega
  have r8 : (cs.drop 248).length = 8 := by rw [List.length_drop]; omega
  have hoe := openErr_is (bs := cs.take 248) (by omega)
  have HM := hid (fun w' (hA : Adds w w') => stamp_any g cs w' (h.adds hA))
  have hE : ∀ w', Adds w w' → Calls Tryd.prog 90 #[.slice (some ⟨g, 0, none⟩) 8 8, .slice (some ⟨g, 248, none⟩) 8 8] w' (Tells (.bool (decide (cs.take 8 = cs.drop 248))) w') := fun w' hA => by
    have := equal_any (some ⟨g, 0, none⟩) (cs.take 8) 8 (some ⟨g, 248, none⟩) (cs.drop 248) 8 w' ((h.adds hA).pre 8) (by have := (h.adds hA).at.suf 248; rwa [Nat.zero_add] at this)
    rwa [l8, r8] at this
  have H8 := hid (fun w' (hA : Adds w w') => (h.adds hA).cell (get_of (j := 8) (by omega)))
  have H9 := hid (fun w' (hA : Adds w w') => (h.adds hA).cell (get_of (j := 9) (by omega)))
  have hB : M.lenOf cs ≤ 233 → ∀ w', Adds w w' → Calls Tryd.prog 93 #[Ptr g] w' (Adding (.slice (some ⟨g, 10 + M.lenOf cs, none⟩) (234 - M.lenOf cs) (234 - M.lenOf cs)) w') := fun hn w' hA => behind_any g cs w' (h.adds hA) hn
  have hC : M.lenOf cs ≤ 233 → ∀ w', Adds w w' → Calls Tryd.prog 92 #[.slice (some ⟨g, 10 + M.lenOf cs, none⟩) (234 - M.lenOf cs) (234 - M.lenOf cs), .func (.func 94) #[] #[]] w' (Tells (.bool (M.some0 (M.behindOf cs))) w') := fun hn w' hA => by
    have hlb := M.len_behind hl
    have := contains_any (some ⟨g, 10 + M.lenOf cs, none⟩) (M.behindOf cs) (234 - M.lenOf cs) w' (h.adds hA).behind (by omega)
    rwa [hlb] at this
  have hP : ∀ w', Adds w w' → Calls Tryd.prog 91 #[.slice (some ⟨g, 0, none⟩) 248 248] w' (POe (openErr (cs.take 248)) w') := fun w' hA => by
    have hO := open_any (some ⟨g, 0, none⟩) (cs.take 248) 248 w' (by omega) (by omega) (hT.adds hA) ((h.adds hA).pre 248)
    rw [l248] at hO
    refine hO.mono ?_
    rintro e w'' ⟨ay, cy, rfl, _, hA'⟩
    exact ⟨ay, _, cy, rfl, hA'⟩
  have e1 : ¬ cs.length ≠ 256 := fun c => c hl
  have k8 : M.kindOf cs = cs.getD 8 0 := rfl
  have k9 : M.lenOf cs = (cs.getD 9 0).toNat := rfl
  unfold M.oErr
  rw [if_neg e1, k8]
  by_cases h0 : M.unfix (cs.take 8) = 0
  · rw [if_pos h0]
    rw [h0] at HM
    have HO := hid hP
    have HE := hid hE
    clear hP hE hB hC hoe k8 k9 e1 hl l248 l8 r8 h h0 hT
    go_enter Tryd.func74, Tryd.ntmps74
    go_wp2_with (first
      | (go_at_call 61; refine (sealed_any g _).mono ?_; rintro e _ ⟨rfl, hw⟩; rw [hw]; clear hw)
      | (go_at_call 91; refine (HO.out w1 A1.out).mono ?_; rintro e w2 ⟨ay, n1, cy, rfl, hA⟩; have A2 := hid (A1.out.trans hA); clear hA; have c8 := H8.out w2 A2.out; have c9 := H9.out w2 A2.out)
      | (go_at_call 75; refine (HM.out w (Touch.refl _ w)).mono ?_; rintro e w1 ⟨rfl, hA⟩; have A1 := hid hA; clear hA)
      | (go_at_call 58; refine (first_any g _).mono ?_; rintro e _ ⟨rfl, hw⟩; rw [hw]; clear hw)
      | (go_at_call 64; refine (last_any g _).mono ?_; rintro e _ ⟨rfl, hw⟩; rw [hw]; clear hw)
      | (go_at_call 90; refine (HE.out w1 A1.out).mono ?_; rintro e _ ⟨rfl, hw⟩; rw [hw]; clear hw))
    go_ret
    exact ⟨rfl, A1.out⟩
  rw [if_neg h0]
  have hst : ¬ (M.unfix (cs.take 8) : Int) = 0 := by omega
  generalize M.unfix (cs.take 8) = st at *
  by_cases h1 : cs.take 8 = cs.drop 248
  case neg =>
    rw [if_pos h1]
    have HE := hid hE
    rw [decide_eq_false h1] at HE
    have HO := hid hP
    clear hP hE hB hC hoe k8 k9 e1 hl l248 l8 r8 h h1 hT
    go_enter Tryd.func74, Tryd.ntmps74
    go_wp2_with (first
      | (go_at_call 61; refine (sealed_any g _).mono ?_; rintro e _ ⟨rfl, hw⟩; rw [hw]; clear hw)
      | (go_at_call 91; refine (HO.out w1 A1.out).mono ?_; rintro e w2 ⟨ay, n1, cy, rfl, hA⟩; have A2 := hid (A1.out.trans hA); clear hA; have c8 := H8.out w2 A2.out; have c9 := H9.out w2 A2.out)
      | (go_at_call 75; refine (HM.out w (Touch.refl _ w)).mono ?_; rintro e w1 ⟨rfl, hA⟩; have A1 := hid hA; clear hA)
      | (go_at_call 58; refine (first_any g _).mono ?_; rintro e _ ⟨rfl, hw⟩; rw [hw]; clear hw)
      | (go_at_call 64; refine (last_any g _).mono ?_; rintro e _ ⟨rfl, hw⟩; rw [hw]; clear hw)
      | (go_at_call 90; refine (HE.out w1 A1.out).mono ?_; rintro e _ ⟨rfl, hw⟩; rw [hw]; clear hw))
    go_ret
    exact ⟨rfl, A1.out⟩
  rw [if_neg (fun c => c h1)]
  have HE := hid hE
  rw [decide_eq_true h1] at HE
  clear hE
  rcases hoe with h2 | h2
  case inr =>
    rw [if_pos (by rw [h2]; decide)]
    have HO := hid hP
    rw [h2] at HO
    clear hP hB hC k8 k9 e1 hl l248 l8 r8 h h1 h2 hT
    go_enter Tryd.func74, Tryd.ntmps74
    go_wp2_with (first
      | (go_at_call 61; refine (sealed_any g _).mono ?_; rintro e _ ⟨rfl, hw⟩; rw [hw]; clear hw)
      | (go_at_call 91; refine (HO.out w1 A1.out).mono ?_; rintro e w2 ⟨ay, n1, cy, rfl, hA⟩; have A2 := hid (A1.out.trans hA); clear hA; have c8 := H8.out w2 A2.out; have c9 := H9.out w2 A2.out)
      | (go_at_call 75; refine (HM.out w (Touch.refl _ w)).mono ?_; rintro e w1 ⟨rfl, hA⟩; have A1 := hid hA; clear hA)
      | (go_at_call 58; refine (first_any g _).mono ?_; rintro e _ ⟨rfl, hw⟩; rw [hw]; clear hw)
      | (go_at_call 64; refine (last_any g _).mono ?_; rintro e _ ⟨rfl, hw⟩; rw [hw]; clear hw)
      | (go_at_call 90; refine (HE.out w1 A1.out).mono ?_; rintro e _ ⟨rfl, hw⟩; rw [hw]; clear hw))
    go_ret
    exact ⟨rfl, A2.out⟩
  rw [if_neg (by rw [h2]; decide)]
  have HO := hid hP
  rw [h2] at HO
  clear hP h1 h2 l248 l8 r8 hT
  by_cases h3 : cs.getD 8 0 = 0
  · rw [if_pos (.inl h3)]
    rw [h3] at H8
    clear hB hC k8 k9 e1 hl h h3
    go_enter Tryd.func74, Tryd.ntmps74
    go_wp2_with (first
      | (go_at_call 61; refine (sealed_any g _).mono ?_; rintro e _ ⟨rfl, hw⟩; rw [hw]; clear hw)
      | (go_at_call 91; refine (HO.out w1 A1.out).mono ?_; rintro e w2 ⟨ay, n1, cy, rfl, hA⟩; have A2 := hid (A1.out.trans hA); clear hA; have c8 := H8.out w2 A2.out; have c9 := H9.out w2 A2.out)
      | (go_at_call 75; refine (HM.out w (Touch.refl _ w)).mono ?_; rintro e w1 ⟨rfl, hA⟩; have A1 := hid hA; clear hA)
      | (go_at_call 58; refine (first_any g _).mono ?_; rintro e _ ⟨rfl, hw⟩; rw [hw]; clear hw)
      | (go_at_call 64; refine (last_any g _).mono ?_; rintro e _ ⟨rfl, hw⟩; rw [hw]; clear hw)
      | (go_at_call 90; refine (HE.out w1 A1.out).mono ?_; rintro e _ ⟨rfl, hw⟩; rw [hw]; clear hw))
    go_ret
    exact ⟨rfl, A2.out⟩
  have hk : ¬ ((cs.getD 8 0).toNat : Int) = 0 := by
    intro e
    exact h3 (UInt8.toNat_inj.1 (by simpa using (show (cs.getD 8 0).toNat = 0 by omega)))
  by_cases h4 : 233 < M.lenOf cs
  · rw [if_pos (.inr (.inl h4))]
    rw [k9] at h4
    have h4' : (233 : Int) < ((cs.getD 9 0).toNat : Int) := by omega
    clear hB hC k8 k9 e1 hl h h3 h4
    generalize cs.getD 8 0 = x8 at *
    generalize cs.getD 9 0 = x9 at *
    go_enter Tryd.func74, Tryd.ntmps74
    go_wp2_with (first
      | (go_at_call 61; refine (sealed_any g _).mono ?_; rintro e _ ⟨rfl, hw⟩; rw [hw]; clear hw)
      | (go_at_call 91; refine (HO.out w1 A1.out).mono ?_; rintro e w2 ⟨ay, n1, cy, rfl, hA⟩; have A2 := hid (A1.out.trans hA); clear hA; have c8 := H8.out w2 A2.out; have c9 := H9.out w2 A2.out)
      | (go_at_call 75; refine (HM.out w (Touch.refl _ w)).mono ?_; rintro e w1 ⟨rfl, hA⟩; have A1 := hid hA; clear hA)
      | (go_at_call 58; refine (first_any g _).mono ?_; rintro e _ ⟨rfl, hw⟩; rw [hw]; clear hw)
      | (go_at_call 64; refine (last_any g _).mono ?_; rintro e _ ⟨rfl, hw⟩; rw [hw]; clear hw)
      | (go_at_call 90; refine (HE.out w1 A1.out).mono ?_; rintro e _ ⟨rfl, hw⟩; rw [hw]; clear hw))
    go_ret
    exact ⟨rfl, A2.out⟩
  have h4' : ¬ (233 : Int) < ((cs.getD 9 0).toNat : Int) := by omega
  have HB := hid (hB (by omega))
  have HC := hid (hC (by omega))
  have e5 : (if cs.getD 8 0 = 0 ∨ 233 < M.lenOf cs ∨ M.some0 (M.behindOf cs) = true then 22 else 0) = (if M.some0 (M.behindOf cs) = true then 22 else 0) := by
    by_cases hb : M.some0 (M.behindOf cs) = true
    · rw [if_pos (.inr (.inr hb)), if_pos hb]
    · rw [if_neg hb, if_neg]
      rintro (c | c | c)
      · exact h3 c
      · exact h4 c
      · exact hb c
  rw [e5]
  clear hB hC k8 k9 e1 hl h h3 h4 e5
  generalize cs.getD 8 0 = x8 at *
  generalize cs.getD 9 0 = x9 at *
  generalize M.lenOf cs = ln at *
  generalize M.some0 (M.behindOf cs) = z at *
  have hkb : ((x8.toNat : Int) == 0) = false := beq_eq_false_iff_ne.2 hk
  have h4b : decide ((233 : Int) < (x9.toNat : Int)) = false := decide_eq_false h4'
  clear hk h4'
  cases z
  · rw [if_neg (by decide)]
    go_enter Tryd.func74, Tryd.ntmps74
    go_wp2_with (first
      | (go_at_call 61; refine (sealed_any g _).mono ?_; rintro e _ ⟨rfl, hw⟩; rw [hw]; clear hw)
      | (go_at_call 91; refine (HO.out w1 A1.out).mono ?_; rintro e w2 ⟨ay, n1, cy, rfl, hA⟩; have A2 := hid (A1.out.trans hA); clear hA; have c8 := H8.out w2 A2.out; have c9 := H9.out w2 A2.out)
      | (go_at_call 75; refine (HM.out w (Touch.refl _ w)).mono ?_; rintro e w1 ⟨rfl, hA⟩; have A1 := hid hA; clear hA)
      | (go_at_call 58; refine (first_any g _).mono ?_; rintro e _ ⟨rfl, hw⟩; rw [hw]; clear hw)
      | (go_at_call 64; refine (last_any g _).mono ?_; rintro e _ ⟨rfl, hw⟩; rw [hw]; clear hw)
      | (go_at_call 90; refine (HE.out w1 A1.out).mono ?_; rintro e _ ⟨rfl, hw⟩; rw [hw]; clear hw)
      | (go_at_call 93; refine (HB.out w2 A2.out).mono ?_; rintro e w3 ⟨rfl, hA⟩; have A3 := hid (A2.out.trans hA); clear hA)
      | (go_at_call 92; refine (HC.out w3 A3.out).mono ?_; rintro e _ ⟨rfl, hw⟩; rw [hw]; clear hw))
    go_ret
    exact ⟨rfl, A3.out⟩
  · rw [if_pos rfl]
    go_enter Tryd.func74, Tryd.ntmps74
    go_wp2_with (first
      | (go_at_call 61; refine (sealed_any g _).mono ?_; rintro e _ ⟨rfl, hw⟩; rw [hw]; clear hw)
      | (go_at_call 91; refine (HO.out w1 A1.out).mono ?_; rintro e w2 ⟨ay, n1, cy, rfl, hA⟩; have A2 := hid (A1.out.trans hA); clear hA; have c8 := H8.out w2 A2.out; have c9 := H9.out w2 A2.out)
      | (go_at_call 75; refine (HM.out w (Touch.refl _ w)).mono ?_; rintro e w1 ⟨rfl, hA⟩; have A1 := hid hA; clear hA)
      | (go_at_call 58; refine (first_any g _).mono ?_; rintro e _ ⟨rfl, hw⟩; rw [hw]; clear hw)
      | (go_at_call 64; refine (last_any g _).mono ?_; rintro e _ ⟨rfl, hw⟩; rw [hw]; clear hw)
      | (go_at_call 90; refine (HE.out w1 A1.out).mono ?_; rintro e _ ⟨rfl, hw⟩; rw [hw]; clear hw)
      | (go_at_call 93; refine (HB.out w2 A2.out).mono ?_; rintro e w3 ⟨rfl, hA⟩; have A3 := hid (A2.out.trans hA); clear hA)
      | (go_at_call 92; refine (HC.out w3 A3.out).mono ?_; rintro e _ ⟨rfl, hw⟩; rw [hw]; clear hw))
    go_ret
    exact ⟨rfl, A3.out⟩
end Go.Proofs.YtmmgfankbabfbaaDoor

/- Bytes copied into a sector; a new sector; Open. -/
namespace Go.Proofs.YtmmgfankbabfbaaDoor
open Go.RowKit

set_option maxRecDepth 100000 in
theorem info5 : (Tryd.prog.info? 5).map (·.size) = some 1 := by kernel_rfl
/-- A sector of bytes 0, as cells. -/
def Z256 : Array Value := (S (List.replicate 256 0)).toArray
set_option maxRecDepth 100000 in
theorem zero43 (w : World) : (zeroValue 122).run Tryd.prog w = .ok (.agg Z256) w := by kernel_rfl
theorem Sec.new (w : World) : Sec (w.alloc (.cells Z256 122)) w.heap.size (List.replicate 256 0) := ⟨by rw [List.length_replicate], heap_alloc_new w _⟩
theorem Adds.one {w0 w w' : World} {g : Nat} (h : Adds w0 w) (hT : Touch (fun k => k = g) w w') (hg : w0.heap.size ≤ g) : Adds w0 w' := h.then hT (fun i hi e => by subst e; exact absurd hi (Nat.not_lt.2 hg))

set_option maxRecDepth 100000 in
theorem copy_run (w : World) (ty : TypeId) (g off n cap : Nat) (a : Option Addr) (xs : List UInt8) (cx : Nat) (cs : List UInt8) (hS : Sec w g cs) (hA : At w a xs) (hc : a = none → cx = 0) (hx : xs.length ≤ n) (hfit : off + xs.length ≤ 256) :
    ∃ w', (Builtin.copy_ #[91, 91] ty #[.slice (some ⟨g, off, none⟩) n cap, .slice a xs.length cx]).run Tryd.prog w = .ok (.int .i64 (xs.length : Int)) w' ∧ Sec w' g (cs.take off ++ xs ++ cs.drop (off + xs.length)) ∧ Touch (fun k => k = g) w w' := by
  cases a with
  | none =>
    obtain rfl := hc rfl
    obtain rfl : xs = [] := by
      cases xs with
      | nil => rfl
      | cons c xs => obtain ⟨b, o', e, _⟩ := hA 0 c rfl; cases e
    refine ⟨w, run_copy_nil Tryd.prog w 91 91 ty 5 ⟨g, off, none⟩ n cap Tryd.underlying91 (by rw [info5]; rfl), ?_, Touch.refl _ _⟩
    rw [List.append_nil, List.length_nil, Nat.add_zero, List.take_append_drop]
    exact hS
  | some ad =>
    have hrun := run_copy_row Tryd.prog w 91 91 ty 5 g off n cap ad xs.length cx (S cs).toArray 122 (S xs) Tryd.underlying91 info5 hS.box (by rw [length_S]; exact (Nat.min_eq_left hx).symm) (fun j v hv => by
      rw [S_get] at hv
      cases hj : xs[j]? with
      | none => rw [hj] at hv; cases hv
      | some c =>
        rw [hj] at hv
        obtain ⟨b, o', e, hcc⟩ := hA j c hj
        obtain rfl : ad = ⟨b, o', none⟩ := by simpa using e
        rw [Addr.add_mid, hcc]
        exact hv) (by rw [length_S, List.size_toArray, length_S, hS.len]; exact hfit) (one_S xs)
    refine ⟨_, hrun.trans (by rw [length_S]; rfl), ⟨?_, ?_⟩, Touch.setRow (T := fun k => k = g) (Touch.refl _ w) (fun _ => rfl) _⟩
    · simp only [List.length_append, List.length_take, List.length_drop, hS.len]; omega
    · rw [setRow_heap w g _ _ 122 _ hS.box]
      congr 2
      simp only [S, List.map_append, List.map_take, List.map_drop]

set_option maxRecDepth 100000 in
theorem copy_sec {w : World} {ops : Array Oper} {rest : List Oper} {o : Oper} {act : Act} {Q : Exit → Act → World → Prop} (hgd : o.guard = none) (d s : Operand)
    (ho : o.op = .call { callee := .builtin .copy, args := #[d, s], argTypes := #[91, 91] }) (g off n cap : Nat) (hd : act.eval d = .slice (some ⟨g, off, none⟩) n cap) (a : Option Addr) (xs : List UInt8) (cx m : Nat) (hm : xs.length = m) (hs : act.eval s = .slice a m cx)
    (cs ds : List UInt8) (hds : cs.take off ++ xs ++ cs.drop (off + xs.length) = ds) (hS : Sec w g cs) (hA : At w a xs) (hc : a = none → cx = 0) (hx : xs.length ≤ n) (hfit : off + xs.length ≤ 256)
    (h : ∀ w', Sec w' g ds → Touch (fun k => k = g) w w' → wpList Tryd.prog ops Q rest (act.put o.dst (.int .i64 (m : Int))) w') : wpList Tryd.prog ops Q (o :: rest) act w := by
  subst hm
  subst hds
  obtain ⟨w', hr, hS', hT⟩ := copy_run w o.type g off n cap a xs cx cs hS hA hc hx hfit
  refine wpList_plain hgd fun K hK => ?_
  unfold Oper.wp execOp
  simp only [ho, resolve, invoke, builtin, Sem.run_bind, Sem.run_pure, Result.andThen_ok, List.map_toArray, List.map_cons, List.map_nil, hd, hs, hr]
  exact hK _ _ (h w' hS' hT)

set_option maxRecDepth 100000 in
theorem res4 {fn : Func} {t u v x : Tmp} (h : fn.results = #[.tmp t, .tmp u, .tmp v, .tmp x]) (tmps : Array Value) (P : Program) (w : World) :
    (results fn tmps).run P w = .ok (.tuple #[tmps.getD t undef, tmps.getD u undef, tmps.getD v undef, tmps.getD x undef]) w := by simp [results, h]
/-- Where a body lies. -/
def Body (w w' : World) (a : Option Addr) (b : List UInt8) : Prop := b = [] ∨ ∃ g cs, a = some ⟨g, 10, none⟩ ∧ w.heap.size ≤ g ∧ Sec w' g cs ∧ (cs.drop 10).take b.length = b
set_option maxRecDepth 100000 in
theorem Body.at {w w' : World} {a : Option Addr} {b : List UInt8} (h : Body w w' a b) : At w' a b := by
  rcases h with rfl | ⟨g, cs, rfl, _, hS, hb⟩
  · exact At.nil _ _
  · rw [← hb]; exact hS.part 10 b.length
/-- What Open tells. -/
def PSOpen (w : World) (bs : List UInt8) (e : Ending) (w' : World) : Prop := ∃ av cv, e = .returned (.tuple #[.int .u64 (M.oMark bs : Int), .int .u8 ((M.oKind bs).toNat : Int), .slice av (M.oBody bs).length cv, .int .i64 (M.oErr bs : Int)]) ∧ Body w w' av (M.oBody bs) ∧ Adds w w'

set_option maxRecDepth 100000 in
set_option maxHeartbeats 1000000 in
theorem sopen_long (a : Option Addr) (n cap : Nat) (w : World) (h : n ≠ 256) : Calls Tryd.prog 54 #[.slice a n cap] w fun e w' => e = .returned (.tuple #[.int .u64 0, .int .u8 0, .slice none 0 0, .int .i64 21]) ∧ w' = w := by
  have h' : ¬ (n : Int) = 256 := by omega
  go_enter Tryd.func54, Tryd.ntmps54
  go_wp2
  (try simp only [Exit.inBlock, Exit.then]); refine bodyPost_ret (res4 rfl _ _ _) rfl ?_
  exact ⟨rfl, rfl⟩
set_option maxRecDepth 100000 in
set_option maxHeartbeats 2000000 in
theorem sopen_bad (a : Option Addr) (bs : List UInt8) (cap : Nat) (w : World) (hl : bs.length = 256) (hc : a = none → cap = 0) (hA : At w a bs) (hT : Tab w) (z : Nat) (hz : M.oErr bs = z) (h0 : z ≠ 0) :
    Calls Tryd.prog 54 #[.slice a 256 cap] w fun e w' => e = .returned (.tuple #[.int .u64 0, .int .u8 0, .slice none 0 0, .int .i64 (z : Int)]) ∧ Adds w w' := by
  have hz43 := zero43
  have hs := slice43a w.heap.size
  have HZ := hid (Sec.new w)
  have HA0 := hid (show Adds w (w.alloc (.cells Z256 122)) from (Touch.refl _ w).alloc _)
  have HA := hid (And.intro hl (And.intro hc (hA.adds HA0.out)))
  have HE := hid (show (List.replicate 256 (0 : UInt8)).take 0 ++ bs ++ (List.replicate 256 0).drop (0 + bs.length) = bs by
    rw [List.take_zero, List.nil_append, List.drop_eq_nil_of_le (by rw [List.length_replicate]; omega), List.append_nil])
  have HT := hid hT
  have HR := hid hz
  have hz0 : ¬ (z : Int) = 0 := by omega
  clear hl hc hA hT hz h0
  go_enter Tryd.func54, Tryd.ntmps54
  go_wp2_with (first
    | (refine copy_sec rfl _ _ rfl w.heap.size 0 256 256 rfl a bs cap 256 HA.out.1 rfl (List.replicate 256 0) bs HE.out HZ.out HA.out.2.2 HA.out.2.1 (by rw [HA.out.1]; decide) (by rw [HA.out.1]; decide) ?_; intro w1 hS hT; have A1 := hid (show Adds w w1 from Adds.one HA0.out hT (Nat.le_refl _)); have S1 := hid hS; clear hS hT)
    | (go_at_call 74; refine (refusal_any w.heap.size bs w1 S1.out (HT.out.adds A1.out)).mono ?_; rintro e w2 ⟨rfl, hA⟩; rw [HR.out]; have A2 := hid (A1.out.trans hA); clear hA))
  (try simp only [Exit.inBlock, Exit.then]); refine bodyPost_ret (res4 rfl _ _ _) rfl ?_
  exact ⟨rfl, A2.out⟩
end Go.Proofs.YtmmgfankbabfbaaDoor

/- Wrap, of whatever stamp, kind and body. -/
namespace Go.Proofs.YtmmgfankbabfbaaDoor
open Go.RowKit

namespace M
theorem rep_drop (m d : Nat) : (List.replicate m (0 : UInt8)).drop d = List.replicate (m - d) 0 := List.drop_replicate
set_option maxRecDepth 100000 in
theorem step1 (n : Nat) : (List.replicate 256 (0 : UInt8)).take 0 ++ fix n 8 ++ (List.replicate 256 0).drop (0 + (fix n 8).length) = fix n 8 ++ List.replicate 248 0 := by
  rw [len_fix, rep_drop, List.take_zero, List.nil_append]
set_option maxRecDepth 100000 in
theorem step2 (n : Nat) (k l : UInt8) : ((fix n 8 ++ List.replicate 248 0).set 8 k).set 9 l = fix n 8 ++ (k :: l :: List.replicate 246 0) := by
  have h := len_fix 8 n
  rw [List.set_append_right _ _ (by omega), List.set_append_right _ _ (by omega), h]
  rfl
set_option maxRecDepth 100000 in
theorem step3 (n : Nat) (k : UInt8) (b : List UInt8) (h : b.length ≤ 233) : (fix n 8 ++ (k :: UInt8.ofNat b.length :: List.replicate 246 0)).take 10 ++ b ++ (fix n 8 ++ (k :: UInt8.ofNat b.length :: List.replicate 246 0)).drop (10 + b.length) = head n k b ++ List.replicate 12 0 := by
  have hl := len_fix 8 n
  have e1 : (fix n 8 ++ (k :: UInt8.ofNat b.length :: List.replicate 246 0)).take 10 = fix n 8 ++ [k, UInt8.ofNat b.length] := by
    rw [List.take_append, hl, List.take_of_length_le (by omega)]; rfl
  have e2 : (fix n 8 ++ (k :: UInt8.ofNat b.length :: List.replicate 246 0)).drop (10 + b.length) = List.replicate (246 - b.length) 0 := by
    rw [show 10 + b.length = 8 + (2 + b.length) by omega, ← List.drop_drop, List.drop_left' hl, ← List.drop_drop]
    exact rep_drop 246 b.length
  rw [e1, e2]
  unfold head
  simp only [List.append_assoc]
  rw [List.replicate_append_replicate, show 234 - b.length + 12 = 246 - b.length by omega]
set_option maxRecDepth 100000 in
theorem step4 (h : List UInt8) (hh : h.length = 244) : (h ++ List.replicate 12 0).take 0 ++ sealed h ++ (h ++ List.replicate 12 0).drop (0 + (sealed h).length) = sealed h ++ List.replicate 8 0 := by
  rw [len_sealed, hh, List.take_zero, List.nil_append, show 0 + (244 + 4) = 244 + 4 from rfl, ← List.drop_drop, List.drop_left' hh, rep_drop]
set_option maxRecDepth 100000 in
theorem step5 (s f : List UInt8) (hs : s.length = 248) (hf : f.length = 8) : (s ++ List.replicate 8 0).take 248 ++ f ++ (s ++ List.replicate 8 0).drop (248 + f.length) = s ++ f := by
  rw [hf, List.take_left' hs, ← List.drop_drop, List.drop_left' hs, rep_drop]
  simp
set_option maxRecDepth 100000 in
theorem at8 (n : Nat) : (fix n 8 ++ List.replicate 248 (0 : UInt8))[8]? = some 0 := by
  rw [List.getElem?_append_right (by rw [len_fix]; decide), len_fix]; rfl
set_option maxRecDepth 100000 in
theorem at9 (n : Nat) : (fix n 8 ++ List.replicate 248 (0 : UInt8))[9]? = some 0 := by
  rw [List.getElem?_append_right (by rw [len_fix]; decide), len_fix]; rfl
end M

set_option maxRecDepth 100000 in
theorem putFixed8 (n : Nat) (w : World) : Calls Tryd.prog 59 #[.slice none 0 0, .int .u64 (n : Int), .int .i64 8] w fun e w' => ∃ a cap, e = .returned (.slice a 8 cap) ∧ Hid (Lies w' w'.heap.size a (M.fix n 8) cap) ∧ Adds w w' := by
  have h := putFixed_any none [] 0 n 8 w (by decide) (fun _ => rfl) (At.nil _ _)
  rw [show M.clamp 8 = 8 from rfl, List.nil_append] at h
  refine h.mono ?_
  rintro e w' ⟨v, rfl, h1, h2⟩
  obtain ⟨a, cap, rfl, h3⟩ := Own.lies h1
  exact ⟨a, cap, by rw [M.len_fix], h3, h2⟩
/-- What Wrap tells. -/
def PWrap (w : World) (cs : List UInt8) (e : Ending) (w' : World) : Prop := ∃ g, e = .returned (.tuple #[.slice (some ⟨g, 0, none⟩) 256 256, .int .i64 0]) ∧ w.heap.size ≤ g ∧ Sec w' g cs ∧ Adds w w'

set_option maxRecDepth 100000 in
set_option maxHeartbeats 2000000 in
theorem swrap_inv (n : Nat) (k : UInt8) (a : Option Addr) (m cap : Nat) (w : World) (h : n = 0 ∨ k = 0) : Calls Tryd.prog 37 #[.int .u64 (n : Int), .int .u8 (k.toNat : Int), .slice a m cap] w fun e w' => e = .returned (.tuple #[.slice none 0 0, .int .i64 2]) ∧ w' = w := by
  by_cases hn : n = 0
  · subst hn
    go_enter Tryd.func37, Tryd.ntmps37
    go_wp2
    go_ret2
    exact ⟨rfl, rfl⟩
  · obtain rfl := h.resolve_left hn
    have hnb : ((n : Int) == 0) = false := beq_eq_false_iff_ne.2 (by omega)
    go_enter Tryd.func37, Tryd.ntmps37
    go_wp2
    go_ret2
    exact ⟨rfl, rfl⟩
set_option maxRecDepth 100000 in
set_option maxHeartbeats 2000000 in
theorem swrap_big (n : Nat) (k : UInt8) (a : Option Addr) (m cap : Nat) (w : World) (hn : n ≠ 0) (hk : k ≠ 0) (hm : 233 < m) : Calls Tryd.prog 37 #[.int .u64 (n : Int), .int .u8 (k.toNat : Int), .slice a m cap] w fun e w' => e = .returned (.tuple #[.slice none 0 0, .int .i64 3]) ∧ w' = w := by
  have hnb : ((n : Int) == 0) = false := beq_eq_false_iff_ne.2 (by omega)
  have hkb : ((k.toNat : Int) == 0) = false := beq_eq_false_iff_ne.2 (fun e => hk (UInt8.toNat_inj.1 (by simpa using (show k.toNat = 0 by omega))))
  go_enter Tryd.func37, Tryd.ntmps37
  go_wp2
  go_ret2
  exact ⟨rfl, rfl⟩
set_option maxRecDepth 100000 in
set_option maxHeartbeats 4000000 in
theorem swrap_ok (n : Nat) (k : UInt8) (a : Option Addr) (b : List UInt8) (cap : Nat) (w : World) (hn : n ≠ 0) (hk : k ≠ 0) (hb : b.length ≤ 233) (hc : a = none → cap = 0) (hA : At w a b) (hT : Tab w) :
    Calls Tryd.prog 37 #[.int .u64 (n : Int), .int .u8 (k.toNat : Int), .slice a b.length cap] w (PWrap w (M.sector n k b)) := by
  have hnb : ((n : Int) == 0) = false := beq_eq_false_iff_ne.2 (by omega)
  have hkb : ((k.toNat : Int) == 0) = false := beq_eq_false_iff_ne.2 (fun e => hk (UInt8.toNat_inj.1 (by simpa using (show k.toNat = 0 by omega))))
  have hz43 := zero43
  have hs := slice43a w.heap.size
  have HZ := hid (Sec.new w)
  have HA0 := hid (show Adds w (w.alloc (.cells Z256 122)) from (Touch.refl _ w).alloc _)
  have HA := hid (And.intro hb (And.intro hc hA))
  have HT := hid hT
  have HF := hid (M.len_fix 8 n)
  have hb' : ¬ (233 : Int) < (b.length : Int) := by omega
  obtain ⟨l, hl⟩ : ∃ l, l = UInt8.ofNat b.length := ⟨_, rfl⟩
  have hl1 : (b.length : Int) % 256 = (l.toNat : Int) := by rw [hl, M.ofNat_toNat _ (by omega)]; omega
  have hl2 : IntKind.u8.wrap (b.length : Int) = (l.toNat : Int) := by rw [← hl1]; rfl
  have HL := hid hl
  clear hn hk hb hc hA hT hl
  go_enter Tryd.func37, Tryd.ntmps37
  go_upto_region 7 with (first
    | (go_at_call 58; refine (first_any w.heap.size _).mono ?_; rintro e _ ⟨rfl, hw⟩; rw [hw]; clear hw)
    | (go_at_call 59; refine (putFixed8 n _).mono ?_; rintro e w1 ⟨a1, cap1, rfl, L1, hA⟩; have A1 := hid (HA0.out.trans hA); have S0 := hid (HZ.out.adds hA); clear hA)
    | (refine copy_sec rfl _ _ rfl w.heap.size 0 8 8 rfl a1 (M.fix n 8) cap1 8 HF.out rfl (List.replicate 256 0) _ (M.step1 n) S0.out L1.out.at_ L1.out.non (by rw [HF.out]; decide) (by rw [HF.out]; decide) ?_; intro w2 hS hT; have A2 := hid (show Adds w w2 from Adds.one A1.out hT (Nat.le_refl _)); have S1 := hid hS; clear hS hT))
  have c8 := S1.out.cell (M.at8 n)
  have c9 := S1.out.cell (M.at9 n)
  have f8 := S1.out.frozen 8
  have f9 := S1.out.frozen 9
  have HS2 := hid (show Sec ((w2.setCell ⟨w.heap.size, 8, none⟩ (.int .u8 (k.toNat : Int))).setCell ⟨w.heap.size, 9, none⟩ (.int .u8 (l.toNat : Int))) w.heap.size (M.fix n 8 ++ (k :: l :: List.replicate 246 0)) by
    have := (S1.out.set 8 k).set 9 l
    rwa [M.step2] at this)
  have HA2 := hid (show Adds w ((w2.setCell ⟨w.heap.size, 8, none⟩ (.int .u8 (k.toNat : Int))).setCell ⟨w.heap.size, 9, none⟩ (.int .u8 (l.toNat : Int))) from (A2.out.setCell (fun h => absurd h (Nat.lt_irrefl _)) _).setCell (fun h => absurd h (Nat.lt_irrefl _)) _)
  go_upto_region 8 with (fail)
  clear c8 c9 f8 f9 hl1 hl2 hz43
  generalize ((w2.setCell ⟨w.heap.size, 8, none⟩ (.int .u8 (k.toNat : Int))).setCell ⟨w.heap.size, 9, none⟩ (.int .u8 (l.toNat : Int))) = w3 at HS2 HA2 ⊢
  have HH := hid (M.len_head n k b HA.out.1)
  have HQ := hid (show (sealed (M.head n k b)).length = 248 by rw [len_sealed, HH.out])
  have HE3 := hid (show (M.fix n 8 ++ (k :: l :: List.replicate 246 0)).take 10 ++ b ++ (M.fix n 8 ++ (k :: l :: List.replicate 246 0)).drop (10 + b.length) = M.head n k b ++ List.replicate 12 0 by rw [HL.out]; exact M.step3 n k b HA.out.1)
  have HSe := hid (show ∀ w', Sec w' w.heap.size (M.head n k b ++ List.replicate 12 0) → Tab w' → Calls Tryd.prog 62 #[.slice (some ⟨w.heap.size, 0, none⟩) 244 244] w' (fun e w'' => ∃ gs cap, e = .returned (.slice (some ⟨gs, 0, none⟩) 248 cap) ∧ At w'' (some ⟨gs, 0, none⟩) (sealed (M.head n k b)) ∧ Adds w' w'') from fun w' hS hT => by
    have hp := hS.pre 244
    rw [List.take_left' HH.out] at hp
    have h := seal_any (some ⟨w.heap.size, 0, none⟩) (M.head n k b) 244 w' (by rw [HH.out]; decide) (fun e => by cases e) hT hp
    rw [HH.out] at h
    refine h.mono ?_
    rintro e w'' ⟨gs, caps, rfl, _, hown, hA⟩
    rw [HH.out] at hown
    exact ⟨gs, caps, by rw [HH.out], At.own hown, hA⟩)
  have HP8 := hid (show (sealed (M.head n k b) ++ List.replicate 8 0).take 8 = M.fix n 8 by
    unfold sealed; rw [M.head_eq, List.append_assoc, List.append_assoc, List.take_left' HF.out])
  go_wp2_with (first
    | (go_at_call 60; refine (room_any w.heap.size _).mono ?_; rintro e _ ⟨rfl, hw⟩; rw [hw]; clear hw)
    | (go_at_call 61; refine (sealed_any w.heap.size _).mono ?_; rintro e _ ⟨rfl, hw⟩; rw [hw]; clear hw)
    | (go_at_call 63; refine (summed_any w.heap.size _).mono ?_; rintro e _ ⟨rfl, hw⟩; rw [hw]; clear hw)
    | (go_at_call 64; refine (last_any w.heap.size _).mono ?_; rintro e _ ⟨rfl, hw⟩; rw [hw]; clear hw)
    | (go_at_call 58; refine (first_any w.heap.size _).mono ?_; rintro e _ ⟨rfl, hw⟩; rw [hw]; clear hw)
    | (go_at_call 62; refine (HSe.out w4 S4.out (HT.out.adds A4.out)).mono ?_; rintro e w5 ⟨gs, caps, rfl, hL, hA⟩; have L5 := hid hL; have A5 := hid (A4.out.trans hA); have S5 := hid (S4.out.adds hA); clear hA hL)
    | (refine copy_sec rfl _ _ rfl w.heap.size 248 8 8 rfl (some ⟨w.heap.size, 0, none⟩) (M.fix n 8) 8 8 HF.out rfl (sealed (M.head n k b) ++ List.replicate 8 0) _ (M.step5 _ _ HQ.out HF.out) S6.out (by have := S6.out.pre 8; rwa [HP8.out] at this) (fun e => by cases e) (by rw [HF.out]; decide) (by rw [HF.out]; decide) ?_; intro w7 hS hT; have A7 := hid (show Adds w w7 from Adds.one A6.out hT (Nat.le_refl _)); have S7 := hid hS; clear hS hT)
    | (refine copy_sec rfl _ _ rfl w.heap.size 0 248 248 rfl (some ⟨gs, 0, none⟩) (sealed (M.head n k b)) caps 248 HQ.out rfl (M.head n k b ++ List.replicate 12 0) _ (M.step4 _ HH.out) S5.out L5.out (fun e => by cases e) (by rw [HQ.out]; decide) (by rw [HQ.out]; decide) ?_; intro w6 hS hT; have A6 := hid (show Adds w w6 from Adds.one A5.out hT (Nat.le_refl _)); have S6 := hid hS; clear hS hT)
    | (refine copy_sec rfl _ _ rfl w.heap.size 10 234 234 rfl a b cap b.length rfl rfl (M.fix n 8 ++ (k :: l :: List.replicate 246 0)) _ HE3.out HS2.out (HA.out.2.2.adds HA2.out) HA.out.2.1 (by have := HA.out.1; omega) (by have := HA.out.1; omega) ?_; intro w4 hS hT; have A4 := hid (show Adds w w4 from Adds.one HA2.out hT (Nat.le_refl _)); have S4 := hid hS; clear hS hT))
  go_ret2
  exact ⟨w.heap.size, rfl, Nat.le_refl _, S7.out, A7.out⟩
end Go.Proofs.YtmmgfankbabfbaaDoor

/- Open, of whatever bytes. -/
namespace Go.Proofs.YtmmgfankbabfbaaDoor
open Go.RowKit

set_option maxRecDepth 100000 in
theorem M.oErr_good {bs : List UInt8} (h : M.oErr bs = 0) : bs.length = 256 ∧ M.lenOf bs ≤ 233 := by
  unfold M.oErr at h
  split at h
  · cases h
  · rename_i h1
    split at h
    · cases h
    · split at h
      · cases h
      · split at h
        · cases h
        · split at h
          · cases h
          · rename_i h5
            exact ⟨Classical.not_not.1 h1, Nat.not_lt.1 (fun c => h5 (.inr (.inl c)))⟩

set_option maxRecDepth 100000 in
set_option maxHeartbeats 2000000 in
theorem sopen_good (a : Option Addr) (bs : List UInt8) (cap : Nat) (w : World) (hl : bs.length = 256) (hc : a = none → cap = 0) (hA : At w a bs) (hT : Tab w) (hz : M.oErr bs = 0) (hn : M.lenOf bs ≤ 233) (o : Nat) (ho : (if M.lenOf bs = 0 then 0 else 10) = o) :
    Calls Tryd.prog 54 #[.slice a 256 cap] w fun e w' => e = .returned (.tuple #[.int .u64 (M.unfix (bs.take 8) : Int), .int .u8 ((M.kindOf bs).toNat : Int), .slice (some ⟨w.heap.size, o, none⟩) (M.lenOf bs) (M.lenOf bs), .int .i64 0]) ∧ Sec w' w.heap.size bs ∧ Adds w w' := by
  have hz43 := zero43
  have hs := slice43a w.heap.size
  have HZ := hid (Sec.new w)
  have HA0 := hid (show Adds w (w.alloc (.cells Z256 122)) from (Touch.refl _ w).alloc _)
  have HA := hid (And.intro hl (And.intro hc (hA.adds HA0.out)))
  have HE := hid (show (List.replicate 256 (0 : UInt8)).take 0 ++ bs ++ (List.replicate 256 0).drop (0 + bs.length) = bs by
    rw [List.take_zero, List.nil_append, List.drop_eq_nil_of_le (by rw [List.length_replicate]; omega), List.append_nil])
  have HT := hid hT
  have HR := hid hz
  have HB := hid (show ∀ w', Sec w' w.heap.size bs → Calls Tryd.prog 76 #[Ptr w.heap.size] w' (Adding (.slice (some ⟨w.heap.size, o, none⟩) (M.lenOf bs) (M.lenOf bs)) w') from fun w' h => by rw [← ho]; exact body_any w.heap.size bs w' h hn)
  have H8 := hid (fun w' (h : Sec w' w.heap.size bs) => h.cell (show bs[8]? = some (M.kindOf bs) from get_of (by omega)))
  clear hl hc hA hT hz hn ho
  go_enter Tryd.func54, Tryd.ntmps54
  go_wp2_with (first
    | (refine copy_sec rfl _ _ rfl w.heap.size 0 256 256 rfl a bs cap 256 HA.out.1 rfl (List.replicate 256 0) bs HE.out HZ.out HA.out.2.2 HA.out.2.1 (by rw [HA.out.1]; decide) (by rw [HA.out.1]; decide) ?_; intro w1 hS hT; have A1 := hid (show Adds w w1 from Adds.one HA0.out hT (Nat.le_refl _)); have S1 := hid hS; clear hS hT)
    | (go_at_call 74; refine (refusal_any w.heap.size bs w1 S1.out (HT.out.adds A1.out)).mono ?_; rintro e w2 ⟨rfl, hA⟩; rw [HR.out]; have A2 := hid (A1.out.trans hA); have S2 := hid (S1.out.adds hA); clear hA))
  have D2 := hid (show Adds w2 w2.drew from (Touch.refl _ w2).drew)
  go_region_held3 (fun w' => w'.cell? ⟨w.heap.size, 8, none⟩ = some (.int .u8 ((M.kindOf bs).toNat : Int))) (first | exact H8.out _ (S2.out.adds D2.out) | exact H8.out _ S4.out | exact H8.out _ S3.out) (first
    | (go_at_call 75; refine (stamp_any w.heap.size bs _ (S2.out.adds D2.out)).mono ?_; rintro e w3 ⟨rfl, hA⟩; have A3 := hid (D2.out.trans hA); have S3 := hid (S2.out.adds (D2.out.trans hA)); clear hA)
    | (go_at_call 76; refine (HB.out w3 S3.out).mono ?_; rintro e w4 ⟨rfl, hA⟩; have A4 := hid hA; have S4 := hid (S3.out.adds hA); clear hA))
  go_wp2
  (try simp only [Exit.inBlock, Exit.then]); refine bodyPost_ret (res4 rfl _ _ _) rfl ?_
  exact ⟨rfl, S4.out, A2.out.trans (A3.out.trans A4.out)⟩

set_option maxRecDepth 100000 in
theorem sopen_any (a : Option Addr) (bs : List UInt8) (cap : Nat) (w : World) (hc : a = none → cap = 0) (hA : At w a bs) (hT : Tab w) : Calls Tryd.prog 54 #[.slice a bs.length cap] w (PSOpen w bs) := by
  by_cases hl : bs.length = 256
  · by_cases h0 : M.oErr bs = 0
    · have hn := (M.oErr_good h0).2
      rw [hl]
      refine (sopen_good a bs cap w hl hc hA hT h0 hn _ rfl).mono ?_
      rintro e w' ⟨rfl, hS, hA'⟩
      have hb : M.oBody bs = (bs.drop 10).take (M.lenOf bs) := by rw [M.oBody, if_pos h0]
      have hlb : (M.oBody bs).length = M.lenOf bs := by rw [hb, List.length_take, List.length_drop]; omega
      refine ⟨_, M.lenOf bs, by rw [M.oMark, if_pos h0, M.oKind, if_pos h0, h0, hlb]; rfl, ?_, hA'⟩
      by_cases hz : M.lenOf bs = 0
      · exact .inl (List.eq_nil_of_length_eq_zero (by omega))
      · refine .inr ⟨w.heap.size, bs, by rw [if_neg hz], Nat.le_refl _, hS, by rw [hlb]; exact hb.symm⟩
    · rw [hl]
      refine (sopen_bad a bs cap w hl hc hA hT _ rfl h0).mono ?_
      rintro e w' ⟨rfl, hA'⟩
      obtain ⟨h1, h2, h3⟩ := M.refused h0
      exact ⟨none, 0, by rw [h1, h2, h3]; rfl, .inl h3, hA'⟩
  · refine (sopen_long a bs.length cap w hl).mono ?_
    rintro e w' ⟨rfl, rfl⟩
    have h21 : M.oErr bs = 21 := by rw [M.oErr, if_pos hl]
    obtain ⟨h1, h2, h3⟩ := M.refused (b := bs) (by rw [h21]; decide)
    exact ⟨none, 0, by rw [h1, h2, h3, h21]; rfl, .inl h3, Touch.refl _ _⟩
end Go.Proofs.YtmmgfankbabfbaaDoor
