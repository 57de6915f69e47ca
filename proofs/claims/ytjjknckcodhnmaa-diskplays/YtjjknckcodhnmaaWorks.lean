/- works: the chapter's example. -/
import Derived.Test.YtjjknckcodhnmaaLose
namespace Go.Proofs.Ytjjknckcodhnmaa
open Go.RowKit

/-- What Read tells, in the caller's words. -/
def PReads (w : World) (bs : List UInt8) (e : Ending) (w' : World) : Prop := ∃ g cap, e = .returned (.tuple #[.slice (some ⟨g, 0, none⟩) 256 cap, .int .i64 0]) ∧ (∀ j b, bs[j]? = some b → w'.cell? ⟨g, j, none⟩ = some (.int .u8 (b.toNat : Int))) ∧ w.heap.size ≤ g ∧ g < w'.heap.size ∧ Adds w w'
theorem PRead.reads {w : World} {bs : List UInt8} {e : Ending} {w' : World} (h : PRead w bs e w') : PReads w bs e w' := by
  obtain ⟨v, rfl, hown, hv, hA⟩ := h
  rcases hown.2 with ⟨c, _⟩ | ⟨g, cap, cur, rfl, hg, hh, _⟩
  · exact absurd c hv
  · refine ⟨g, cap, rfl, fun j b hb => ?_, hg, (Array.getElem?_eq_some_iff.1 hh).1, hA⟩
    have hl : (S bs).length = 256 := hown.1
    have hj : j < bs.length := (List.getElem?_eq_some_iff.1 hb).1
    rw [length_S] at hl
    rw [hown.cellAt j (by omega), S_get, hb]; rfl

theorem filled_1 (w : World) : Calls Try.prog 27 #[.int .u8 1] w fun e w' => ∃ g, e = .returned (.slice (some ⟨g, 0, none⟩) 256 256) ∧ w.heap.size ≤ g ∧ Bytes w' g (sec 1) ∧ Adds w w' := filled_any 1 w

/-- The state with one write of ones to sector 1. -/
def D1 : St := (St.new 3).wrote 1 (sec 1)
theorem sec_len (c : UInt8) : (sec c).length = 256 := List.length_replicate
theorem sec_get (c : UInt8) (j : Nat) (h : j < 256) : (sec c)[j]? = some c := by
  unfold sec; rw [List.getElem?_replicate, if_pos h]
theorem zeros_get (j : Nat) (h : j < 256) : zeros[j]? = some 0 := sec_get 0 j h

theorem d1_none : (D1.lost [] (-1) 0).H 1 = zeros := by
  show loseTo D1.H D1.W [] (-1) 0 D1.W.length 1 = zeros
  rw [show D1.W.length = 0 + 1 from rfl, lose_left (W := D1.W) (x := (1, sec 1)) rfl (by decide) rfl]; rfl
theorem d1_kept : (D1.lost [true] (-1) 0).H 1 = sec 1 := by
  show loseTo D1.H D1.W [true] (-1) 0 D1.W.length 1 = sec 1
  rw [show D1.W.length = 0 + 1 from rfl, lose_kept (W := D1.W) (x := (1, sec 1)) rfl (by decide) rfl]; simp [upd]
theorem d1_torn : (D1.lost [] 0 2).H 1 = (sec 1).take 2 ++ zeros.drop 2 := by
  show loseTo D1.H D1.W [] 0 2 D1.W.length 1 = _
  rw [show D1.W.length = 0 + 1 from rfl, lose_torn (W := D1.W) (x := (1, sec 1)) (torn := 0) (k := 0) rfl rfl]
  show upd _ 1 _ 1 = _
  rw [upd, if_pos rfl]; rfl

theorem bytes_range {w : World} {g : Nat} {bs : List UInt8} (h : Bytes w g bs) : w.rangeAt g 0 (S bs) := rangeAt_row h
theorem kept_nil (w : World) (ka : Option Addr) : KeptAt w ka [] := fun j h => absurd h (by simp)
theorem St.new_steps (n : Int) : (St.new n).steps = 0 := rfl

set_option maxRecDepth 100000 in
set_option maxHeartbeats 2000000 in
theorem works_any (w : World) : Calls Try.prog 10 #[] w fun e w' => e = .returned (.bool true) ∧ Adds w w' := by
  go_enter Try.func10, Try.ntmps10
  go_wp2_with (first
    | (go_at_call 8; refine (new_yes 3 w w.heap.size (Nat.le_refl _) (by decide) (by decide)).mono ?_; rintro e w1 ⟨p, hb, rfl, hp, hhb, hd1, hA1⟩)
    | (go_at_call 27; refine (filled_1 _).mono ?_; rintro e w2 ⟨g, rfl, hg, hB2, hA2⟩)
    | (go_at_call 12; refine (write_ok w.heap.size p hb _ (St.new 3) 1 g 0 256 (sec 1) _ (hd1.adds hA2) (by decide) (by decide) (by decide) (sec_len 1) (bytes_range hB2) (by decide) (by decide) (by decide) (by decide)).mono ?_; rintro e w3 ⟨wv, rfl, hd3, hT3⟩))
  have HT3 : Hid (Adds w w3) := (hA1.trans hA2).then hT3 (fun j hj c => by rcases c with c | c; omega; cases c)
  have HD3 : Hid (IsDisk w3 w.heap.size p hb wv D1) := hd3
  clear hd3 hT3 hd1 hA1 hA2 hB2
  have L1 := hid (lose_ok w.heap.size p hb wv D1 none 0 [] (-1) 0 w3 HD3.out (by decide) (by decide) HT3.out.size (kept_nil _ _) (by decide) (by decide))
  unfold lossV at L1
  simp only [List.length_nil] at L1
  refine L1.out.mono ?_
  rintro e w4 ⟨pa, ha, rfl, hpa, hha, hda, hA4⟩
  go_wp2_with fail
  have hk4 : KeptAt (w4.alloc (.cells #[.bool true] 4)) (some ⟨w4.heap.size, 0, none⟩) [true] := fun j h => by
    have hj : j = 0 := by simp at h; omega
    subst hj
    exact ⟨w4.heap.size, 0, rfl, by simp⟩
  have hA5 : Adds w4 (w4.alloc (.cells #[.bool true] 4)) := (Touch.refl _ w4).alloc _
  have L2 := hid (lose_ok w.heap.size p hb wv D1 (some ⟨w4.heap.size, 0, none⟩) 1 [true] (-1) 0 (w4.alloc (.cells #[.bool true] 4)) (HD3.out.adds (hA4.trans hA5)) (by decide) (by decide) ((HT3.out.trans (hA4.trans hA5)).size) hk4 (by decide) (by decide))
  unfold lossV at L2
  simp only [List.length_singleton] at L2
  have HDA := hid hda
  have H45 := hid (hA4.trans hA5)
  clear hk4 hda hA4 L1
  refine L2.out.mono ?_
  rintro e w6 ⟨pb, hbb, rfl, hpb, hhbb, hdb, hA6⟩
  have HDA6 := hid ((HDA.out.adds hA5).adds hA6)
  have H36 : Hid (Adds w3 w6) := H45.out.trans hA6
  have HDB := hid hdb
  clear L2 hdb hA6 hA5 HDA H45
  go_wp2_with fail
  have L3 := hid (lose_ok w.heap.size p hb wv D1 none 0 [] 0 2 w6 (HD3.out.adds H36.out) (by decide) (by decide) ((HT3.out.trans H36.out).size) (kept_nil _ _) (by decide) (by decide))
  unfold lossV at L3
  simp only [List.length_nil] at L3
  refine L3.out.mono ?_
  rintro e w7 ⟨pc, hbc, rfl, hpc, hhbc, hdc, hA7⟩
  have HA := hid (HDA6.out.adds hA7)
  have HB := hid (HDB.out.adds hA7)
  have HC := hid hdc
  have H7 : Hid (Adds w w7) := (HT3.out.trans H36.out).trans hA7
  clear L3 hdc hA7 HDA6 HDB HT3 H36 HD3
  go_wp2_with fail
  have R1 := hid (read_ok w.heap.size pa ha _ (D1.lost [] (-1) 0) 1 w7 HA.out (by decide) (by decide) (by decide))
  refine R1.out.mono ?_
  intro e w8 hr8
  obtain ⟨gx, cx, rfl, hcx, _, hgx, hA8⟩ := hr8.reads
  have x0 : w8.cell? ⟨gx, 0, none⟩ = some (.int .u8 0) := hcx 0 0 (by show (hasOf _ [] 1)[0]? = _; rw [hasOf_none (by simp), d1_none]; exact zeros_get 0 (by omega))
  have HB8 := hid (HB.out.adds hA8)
  have HC8 := hid (HC.out.adds hA8)
  have H8 := hid (H7.out.trans hA8)
  clear hcx hr8 R1 hA8 HA HB HC H7
  go_wp2_with fail
  have R2 := hid (read_ok w.heap.size pb hbb _ (D1.lost [true] (-1) 0) 1 w8 HB8.out (by decide) (by decide) (by decide))
  refine R2.out.mono ?_
  intro e w9 hr9
  obtain ⟨gy, cy, rfl, hcy, _, hgy, hA9⟩ := hr9.reads
  have y255 : w9.cell? ⟨gy, 255, none⟩ = some (.int .u8 1) := hcy 255 1 (by show (hasOf _ [] 1)[255]? = _; rw [hasOf_none (by simp), d1_kept]; exact sec_get 1 255 (by omega))
  have x0' : w9.cell? ⟨gx, 0, none⟩ = some (.int .u8 0) := by rw [World.cell?_of_block (w := w8) (hA9.block gx hgx id)]; exact x0
  have hgx' : gx < w9.heap.size := Nat.lt_of_lt_of_le hgx hA9.size
  have HC9 := hid (HC8.out.adds hA9)
  have H9 := hid (H8.out.trans hA9)
  clear hcy hr9 R2 hA9 HB8 HC8 H8 x0 hgx
  go_wp2_with fail
  have R3 := hid (read_ok w.heap.size pc hbc _ (D1.lost [] 0 2) 1 w9 HC9.out (by decide) (by decide) (by decide))
  refine R3.out.mono ?_
  intro e w10 hr10
  obtain ⟨gz, cz, rfl, hcz, _, hgz, hA10⟩ := hr10.reads
  have z1 : w10.cell? ⟨gz, 1, none⟩ = some (.int .u8 1) := hcz 1 1 (by show (hasOf _ [] 1)[1]? = _; rw [hasOf_none (by simp), d1_torn]; rfl)
  have z2 : w10.cell? ⟨gz, 2, none⟩ = some (.int .u8 0) := hcz 2 0 (by show (hasOf _ [] 1)[2]? = _; rw [hasOf_none (by simp), d1_torn]; rfl)
  have x0 : w10.cell? ⟨gx, 0, none⟩ = some (.int .u8 0) := by rw [World.cell?_of_block (w := w9) (hA10.block gx hgx' id)]; exact x0'
  have y255' : w10.cell? ⟨gy, 255, none⟩ = some (.int .u8 1) := by rw [World.cell?_of_block (w := w9) (hA10.block gy hgy id)]; exact y255
  have H10 := hid (H9.out.trans hA10)
  clear hcz hr10 R3 hA10 HC9 H9 x0' y255 hgx' hgy
  go_wp2
  go_ret
  exact ⟨rfl, H10.out⟩
end Go.Proofs.Ytjjknckcodhnmaa
