/- Where a column stands of which something is so. -/
import Derived.Test.YtlgchdpajfmpdaaCols
namespace Go.Proofs.Ytlgchdpajfmpdaa
open Go.RowKit

theorem str_eq (x y : List UInt8) : (x == y) = decide (x = y) := by
  by_cases h : x = y
  · subst h; simp
  · rw [decide_eq_false h, beq_eq_false_iff_ne]; exact h
set_option maxHeartbeats 400000 in
theorem named_any (c : M.Col) (nm : List UInt8) (pb : Nat) (w : World) (hc : w.cell? ⟨pb, 0, none⟩ = some (.string ⟨nm.toArray⟩)) : Calls Try.prog 30 #[.agg #[.string ⟨c.1.toArray⟩, .int .i64 c.2], .pointer (some ⟨pb, 0, none⟩)] w (Tells w (.bool (decide (c.1 = nm)))) := by
  have hc2 := cell_alloc w (.cells #[.string ⟨c.1.toArray⟩, .int .i64 c.2] 51) hc
  have HE := hid (str_eq c.1 nm)
  clear hc
  go_enter Try.func30, Try.ntmps30
  go_wp2_with fail
  go_ret
  exact ⟨by rw [← HE.out]; rfl, (Touch.refl _ w).alloc _⟩
set_option maxRecDepth 100000 in
set_option maxHeartbeats 1000000 in
theorem index27_any (a : Option Addr) (cap : Nat) (cs : List M.Col) (w : World) (hA : ColAt w a cs) (hl : cs.length ≤ 1000) : Calls Try.prog 29 #[.slice a cs.length cap, .func (.func 27) #[] #[]] w (Tells w (.int .i64 (M.place (M.idx M.colBad cs)))) := by
  have HA := hid hA
  have HQ := hid (fun (c : M.Col) (z : Bool) (hz : M.colBad c = z) (w' : World) (hw : Adds w w') => show Calls Try.prog 27 #[.agg #[.string ⟨c.1.toArray⟩, .int .i64 c.2]] w' (Tells w' (.bool z)) by rw [← hz]; exact mayNotBe_any c w')
  clear hA
  go_enter Try.func29, Try.ntmps29
  go_wp2_with fail
  go_loopw [8] (fun iv wr => ∃ i : Nat, iv = .int .i64 (i : Int) ∧ i ≤ cs.length ∧ Hid ((∀ d ∈ cs.take i, M.colBad d = false) ∧ Adds w wr)) (fun iv _ => cs.length - (intOf iv).toNat)
  case atStart => exact ⟨0, rfl, Nat.zero_le _, fun d hd => (by simp at hd), Touch.refl _ _⟩
  case round =>
    obtain ⟨i, rfl, hi, HI⟩ := hrel
    by_cases hlt : i < cs.length
    · have hltz : (i : Int) < (cs.length : Int) := by omega
      obtain ⟨c, hc⟩ : ∃ c, cs[i]? = some c := ⟨cs[i], List.getElem?_eq_getElem hlt⟩
      obtain ⟨b, o, ea, c0, c1⟩ := (HA.out.adds HI.out.2) i c hc
      subst ea
      obtain ⟨z, hz⟩ : ∃ z, M.colBad c = z := ⟨_, rfl⟩
      have HZ := hid (And.intro hz hc)
      have HC := hid (HQ.out c z hz wr HI.out.2)
      clear hz hc
      cases z with
      | false =>
        go_wp2_with (first | (go_at_call 27; refine HC.out.mono ?_; rintro e w' ⟨rfl, hA⟩; have A1 := hid hA; clear hA))
        go_roundw
        case rel => exact ⟨i + 1, by go_num, by omega, M.take_false HZ.out.2 HI.out.1 HZ.out.1, HI.out.2.trans A1.out⟩
        case measure => simp [intOf]; omega
      | true =>
        go_wp2_with (first | (go_at_call 27; refine HC.out.mono ?_; rintro e w' ⟨rfl, hA⟩; have A1 := hid hA; clear hA))
        go_ret
        exact ⟨by rw [M.idx_some HZ.out.2 HZ.out.1 HI.out.1]; rfl, HI.out.2.trans A1.out⟩
    · have hltz : ¬ (i : Int) < (cs.length : Int) := by omega
      have HN := hid (M.idx_none (p := M.colBad) (cs := cs) (by have := HI.out.1; rw [List.take_of_length_le (by omega)] at this; exact this))
      go_wp2_with fail
      go_ret
      exact ⟨by rw [HN.out]; rfl, HI.out.2⟩
set_option maxRecDepth 100000 in
set_option maxHeartbeats 1000000 in
theorem index30_any (a : Option Addr) (cap : Nat) (cs : List M.Col) (nm : List UInt8) (pb : Nat) (w : World) (hA : ColAt w a cs) (hl : cs.length ≤ 1000) (hp : w.cell? ⟨pb, 0, none⟩ = some (.string ⟨nm.toArray⟩)) : Calls Try.prog 29 #[.slice a cs.length cap, .func (.func 30) #[] #[.pointer (some ⟨pb, 0, none⟩)]] w (Tells w (.int .i64 (M.place (M.idx (fun d => decide (d.1 = nm)) cs)))) := by
  have HA := hid hA
  have HQ := hid (fun (c : M.Col) (z : Bool) (hz : (fun d : M.Col => decide (d.1 = nm)) c = z) (w' : World) (hw : Adds w w') => show Calls Try.prog 30 #[.agg #[.string ⟨c.1.toArray⟩, .int .i64 c.2], .pointer (some ⟨pb, 0, none⟩)] w' (Tells w' (.bool z)) by rw [← hz]; exact named_any c nm pb w' (by rw [World.cell?_of_block (w := w) (hw.block pb (World.block_lt_of_cell? w _ hp) id)]; exact hp))
  clear hA hp
  go_enter Try.func29, Try.ntmps29
  go_wp2_with fail
  go_loopw [8] (fun iv wr => ∃ i : Nat, iv = .int .i64 (i : Int) ∧ i ≤ cs.length ∧ Hid ((∀ d ∈ cs.take i, (fun d : M.Col => decide (d.1 = nm)) d = false) ∧ Adds w wr)) (fun iv _ => cs.length - (intOf iv).toNat)
  case atStart => exact ⟨0, rfl, Nat.zero_le _, fun d hd => (by simp at hd), Touch.refl _ _⟩
  case round =>
    obtain ⟨i, rfl, hi, HI⟩ := hrel
    by_cases hlt : i < cs.length
    · have hltz : (i : Int) < (cs.length : Int) := by omega
      obtain ⟨c, hc⟩ : ∃ c, cs[i]? = some c := ⟨cs[i], List.getElem?_eq_getElem hlt⟩
      obtain ⟨b, o, ea, c0, c1⟩ := (HA.out.adds HI.out.2) i c hc
      subst ea
      obtain ⟨z, hz⟩ : ∃ z, (fun d : M.Col => decide (d.1 = nm)) c = z := ⟨_, rfl⟩
      have HZ := hid (And.intro hz hc)
      have HC := hid (HQ.out c z hz wr HI.out.2)
      clear hz hc
      cases z with
      | false =>
        go_wp2_with (first | (go_at_call 30; refine HC.out.mono ?_; rintro e w' ⟨rfl, hA⟩; have A1 := hid hA; clear hA))
        go_roundw
        case rel => exact ⟨i + 1, by go_num, by omega, M.take_false HZ.out.2 HI.out.1 HZ.out.1, HI.out.2.trans A1.out⟩
        case measure => simp [intOf]; omega
      | true =>
        go_wp2_with (first | (go_at_call 30; refine HC.out.mono ?_; rintro e w' ⟨rfl, hA⟩; have A1 := hid hA; clear hA))
        go_ret
        exact ⟨by rw [M.idx_some HZ.out.2 HZ.out.1 HI.out.1]; rfl, HI.out.2.trans A1.out⟩
    · have hltz : ¬ (i : Int) < (cs.length : Int) := by omega
      have HN := hid (M.idx_none (p := (fun d => decide (d.1 = nm))) (cs := cs) (by have := HI.out.1; rw [List.take_of_length_le (by omega)] at this; exact this))
      go_wp2_with fail
      go_ret
      exact ⟨by rw [HN.out]; rfl, HI.out.2⟩
set_option maxHeartbeats 400000 in
theorem contains_any (a : Option Addr) (cap : Nat) (cs : List M.Col) (w : World) (hA : ColAt w a cs) (hl : cs.length ≤ 1000) : Calls Try.prog 26 #[.slice a cs.length cap, .func (.func 27) #[] #[]] w (Tells w (.bool (cs.any M.colBad))) := by
  have H := hid (index27_any a cap cs w hA hl)
  have HE := hid (show cs.any M.colBad = decide ((0 : Int) ≤ M.place (M.idx M.colBad cs)) by
    rw [M.any_idx]
    cases M.idx M.colBad cs with
    | none => rfl
    | some i => rw [M.place]; simp)
  clear hA
  go_enter Try.func26, Try.ntmps26
  go_wp2_with (first | (go_at_call 29; refine H.out.mono ?_; rintro e w' ⟨rfl, hA⟩; have A1 := hid hA; clear hA))
  go_ret
  exact ⟨by rw [HE.out]; rfl, A1.out⟩
/-- A table as the program has it. -/
abbrev TV (n : List UInt8) (a : Option Addr) (cap : Nat) (cs : List M.Col) : Value := .agg #[.string ⟨n.toArray⟩, .slice a cs.length cap]
set_option maxHeartbeats 400000 in
theorem column_any (n : List UInt8) (a : Option Addr) (cap : Nat) (cs : List M.Col) (nm : List UInt8) (w : World) (hA : ColAt w a cs) (hl : cs.length ≤ 1000) : Calls Try.prog 12 #[TV n a cap cs, .string ⟨nm.toArray⟩] w (Tells w (.int .i64 (M.place (M.idx (fun d => decide (d.1 = nm)) cs)))) := by
  show Calls Try.prog 12 #[.agg #[.string ⟨n.toArray⟩, .slice a cs.length cap], .string ⟨nm.toArray⟩] w _
  have hA1 : Adds w ((w.alloc (.cells #[.string ⟨n.toArray⟩, .slice a cs.length cap] 24)).alloc (.cells #[.string ⟨nm.toArray⟩] 9)) := ((Touch.refl _ w).alloc _).alloc _
  have H := hid (index30_any a cap cs nm (w.heap.size + 1) _ (hA.adds hA1) hl (by
    have := cellOf (heap_alloc_new (w.alloc (.cells #[.string ⟨n.toArray⟩, .slice a cs.length cap] 24)) (.cells #[.string ⟨nm.toArray⟩] 9)) 0
    simp at this ⊢))
  have HA1 := hid hA1
  clear hA hA1
  go_enter Try.func12, Try.ntmps12
  go_wp2_with (first | (go_at_call 29; refine H.out.mono ?_; rintro e w' ⟨rfl, hA⟩; have A1 := hid hA; clear hA))
  go_ret
  exact ⟨rfl, HA1.out.trans A1.out⟩
end Go.Proofs.Ytlgchdpajfmpdaa
