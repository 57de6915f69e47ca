/- works: the chapter's example. -/
import Derived.Test.YtlgbgedkedddaaaDoorDLose
namespace Go.Proofs.YtlgbgedkedddaaaDoor
open Go.RowKit

/-- What Read tells, in the caller's words. -/
def PReads (w : World) (bs : List UInt8) (e : Ending) (w' : World) : Prop := ∃ g cap, e = .returned (.tuple #[.slice (some ⟨g, 0, none⟩) 256 cap, .int .i64 0]) ∧ (∀ j b, bs[j]? = some b → w'.cell? ⟨g, j, none⟩ = some (.int .u8 (b.toNat : Int))) ∧ w.heap.size ≤ g ∧ g < w'.heap.size ∧ Adds w w'
set_option maxRecDepth 100000 in
theorem dPRead.reads {w : World} {bs : List UInt8} {e : Ending} {w' : World} (h : dPRead w bs e w') : PReads w bs e w' := by
  obtain ⟨v, rfl, hown, hv, hA⟩ := h
  rcases hown.2 with ⟨c, _⟩ | ⟨g, cap, cur, rfl, hg, hh, _⟩
  · exact absurd c hv
  · refine ⟨g, cap, rfl, fun j b hb => ?_, hg, (Array.getElem?_eq_some_iff.1 hh).1, hA⟩
    have hl : (S bs).length = 256 := hown.1
    have hj : j < bs.length := (List.getElem?_eq_some_iff.1 hb).1
    rw [length_S] at hl
    rw [hown.cellAt j (by omega), S_get, hb]; rfl

/-- The state with one write of ones to sector 1. -/
def D1 : dSt := (dSt.new 3).wrote 1 (sec 1)
theorem sec_len (c : UInt8) : (sec c).length = 256 := List.length_replicate
set_option maxRecDepth 100000 in
theorem sec_get (c : UInt8) (j : Nat) (h : j < 256) : (sec c)[j]? = some c := by
  unfold sec; rw [List.getElem?_replicate, if_pos h]
theorem zeros_get (j : Nat) (h : j < 256) : zeros[j]? = some 0 := sec_get 0 j h

set_option maxRecDepth 100000 in
theorem d1_none : (D1.lost [] (-1) 0).H 1 = zeros := by
  show loseTo D1.H D1.W [] (-1) 0 D1.W.length 1 = zeros
  rw [show D1.W.length = 0 + 1 from rfl, lose_left (W := D1.W) (x := (1, sec 1)) rfl (by decide) rfl]; rfl
set_option maxRecDepth 100000 in
theorem d1_kept : (D1.lost [true] (-1) 0).H 1 = sec 1 := by
  show loseTo D1.H D1.W [true] (-1) 0 D1.W.length 1 = sec 1
  rw [show D1.W.length = 0 + 1 from rfl, lose_kept (W := D1.W) (x := (1, sec 1)) rfl (by decide) rfl]; simp [upd]
set_option maxRecDepth 100000 in
theorem d1_torn : (D1.lost [] 0 2).H 1 = (sec 1).take 2 ++ zeros.drop 2 := by
  show loseTo D1.H D1.W [] 0 2 D1.W.length 1 = _
  rw [show D1.W.length = 0 + 1 from rfl, lose_torn (W := D1.W) (x := (1, sec 1)) (torn := 0) (k := 0) rfl rfl]
  show upd _ 1 _ 1 = _
  rw [upd, if_pos rfl]; rfl

theorem bytes_range {w : World} {g : Nat} {bs : List UInt8} (h : dBytes w g bs) : w.rangeAt g 0 (S bs) := rangeAt_row h
theorem kept_nil (w : World) (ka : Option Addr) : KeptAt w ka [] := fun j h => absurd h (by simp)
theorem dSt.new_steps (n : Int) : (dSt.new n).steps = 0 := rfl

end Go.Proofs.YtlgbgedkedddaaaDoor
