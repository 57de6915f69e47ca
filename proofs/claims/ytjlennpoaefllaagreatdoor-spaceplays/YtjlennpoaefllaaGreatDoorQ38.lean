/- A pair of pools tells the same. -/
import Derived.Test.YtjlennpoaefllaaGreatDoorQ37
import Derived.Test.YtjlennpoaefllaaGreatDoorQ22
import Derived.BigQuiet
namespace Go.Proofs.YtjlennpoaefllaaGreatDoor
open Go.RowKit
/-- Numbers that are told. -/
def PNa (w : World) (zs : List Int) (n : Nat) (e : Ending) (w' : World) : Prop := ∃ a cap, e = .returned (.slice a n cap) ∧ Hid (NAt w' a zs ∧ Adds w w')
set_option maxRecDepth 100000 in
theorem PNums.na {w w' : World} {zs : List Int} {n : Nat} {e : Ending} (h : PNums w zs e w') (hn : zs.length = n) : PNa w zs n e w' := by
  obtain ⟨v, rfl, H⟩ := h
  obtain ⟨a, cap, rfl, hq⟩ := row_nat H.out.1
  exact ⟨a, cap, by rw [hn], hq, H.out.2⟩
set_option maxRecDepth 100000 in
theorem PwE.nums {w0 w : World} {X : List (Nat × Obj)} {p d q r : Nat} {s s' : F.Po} {D D' : dSt} {n k : Nat} (h : PwE w0 w X p d q r s s' D D' n k) (hs : s' = s) (hz : D.size ≤ 4096) : ∀ (j : Int) (m : F.Fr → Bool), (j = 0 ∧ m = F.isHeld ∨ j = 1 ∧ m = F.isFresh ∨ j = 2 ∧ m = F.isDirty) → Calls Tryz.prog 60 #[Ptr q, .int .i64 j] w (PNums w (F.which s m)) := by
  subst hs
  obtain ⟨hg, hok, _, _⟩ := h.facts
  obtain ⟨O, OD, OQ, OR, h⟩ := h
  obtain ⟨lv, hq⟩ := h.isq
  have hl : s'.L.length ≤ 9000 := by have := hg.len; have := hok.mo2; omega
  obtain ⟨c, hc⟩ : ∃ c : Nat, s'.ct = (c : Int) := ⟨s'.ct.toNat, by have := hok.ct1; omega⟩
  have hc2 : c ≤ 10000 := by have := hok.fit; have := hok.size; have := hok.fr0; omega
  intro j m hj
  rw [← F.nums_which hg m hc.symm]
  exact qwhere_any hq (by omega) c hc hc2 j m hj
set_option maxRecDepth 100000 in
theorem which_le {s : F.Po} {D : dSt} (hg : F.Good s) (hok : POk s D) (m : F.Fr → Bool) : ((F.which s m).length : Int) ≤ D.size := by
  obtain ⟨c, hc⟩ : ∃ c : Nat, s.ct = (c : Int) := ⟨s.ct.toNat, by have := hok.ct1; omega⟩
  have h1 := F.nums_len s m c
  rw [F.nums_which hg m hc.symm] at h1
  have := hok.fit
  have := hok.fr0
  omega
end Go.Proofs.YtjlennpoaefllaaGreatDoor
