/- Open and the reference's, of whatever bytes. -/
import Derived.Test.YtcablnjhfocogaaDoorQ08
import Derived.Deep.RegionWith
import Derived.WideShapes
namespace Go.Proofs.YtcablnjhfocogaaDoor
open Go.RowKit

/-- What is opened. -/
def opened (bs : List UInt8) : List UInt8 := if bs.length < 4 then [] else if sealed (bs.take (bs.length - 4)) = bs then bs.take (bs.length - 4) else []
/-- Why not. -/
def openErr (bs : List UInt8) : Int := if bs.length < 4 then 21 else if sealed (bs.take (bs.length - 4)) = bs then 0 else 20

theorem four_of {l : List UInt8} (h : l.length = 4) : ∃ c0 c1 c2 c3, l = [c0, c1, c2, c3] := by
  match l, h with
  | [c0, c1, c2, c3], _ => exact ⟨c0, c1, c2, c3, rfl⟩
theorem cut4 {bs : List UInt8} (h : 4 ≤ bs.length) : ∃ body c0 c1 c2 c3, bs = body ++ [c0, c1, c2, c3] ∧ bs.take (bs.length - 4) = body := by
  obtain ⟨c0, c1, c2, c3, h4⟩ := four_of (l := bs.drop (bs.length - 4)) (by rw [List.length_drop]; omega)
  refine ⟨bs.take (bs.length - 4), c0, c1, c2, c3, ?_, rfl⟩
  rw [← h4, List.take_append_drop]
/-- What Open tells. -/
def POpen (w : World) (bs : List UInt8) (e : Ending) (w' : World) : Prop := ∃ ay cy, e = .returned (.tuple #[.slice ay (opened bs).length cy, .int .i64 (openErr bs)]) ∧ w'.ownsRow w.heap.size 5 1 (.slice ay (opened bs).length cy) (opened bs).length (S (opened bs)) ∧ Adds w w'
/-- What the reference's tells. -/
def PROpen (w : World) (bs : List UInt8) (e : Ending) (w' : World) : Prop := ∃ az cz, e = .returned (.tuple #[.slice az (opened bs).length cz, .int .i64 (openErr bs)]) ∧ At w' az (opened bs) ∧ Adds w w'

set_option maxHeartbeats 1000000 in
theorem open_short (a : Option Addr) (n cap : Nat) (hn : n < 4) (w : World) : Calls Tryd.prog 65 #[.slice a n cap] w fun e w' => e = .returned (.tuple #[.slice none 0 0, .int .i64 21]) ∧ w' = w := by
  go_enter Tryd.func65, Tryd.ntmps65
  go_wp2
  go_ret2
  exact ⟨rfl, rfl⟩
theorem open_any (a : Option Addr) (bs : List UInt8) (cap : Nat) (w : World) (hlen : bs.length ≤ 1000000) (hcap : bs.length ≤ cap) (hT : Tab w) (hA : At w a bs) : Calls Tryd.prog 65 #[.slice a bs.length cap] w (POpen w bs) := by
  by_cases h4 : bs.length < 4
  · refine (open_short a bs.length cap h4 w).mono ?_
    rintro e w' ⟨rfl, rfl⟩
    have e1 : opened bs = [] := by rw [opened, if_pos h4]
    have e2 : openErr bs = 21 := by rw [openErr, if_pos h4]
    refine ⟨none, 0, by rw [e1, e2]; rfl, ?_, Touch.refl _ _⟩
    rw [e1]
    exact World.ownsRow_nil _ _ _ _
  · obtain ⟨b, o, rfl⟩ := hA.ad (by omega)
    obtain ⟨body, c0, c1, c2, c3, hb, ht⟩ := cut4 (show 4 ≤ bs.length by omega)
    have hl : bs.length = body.length + 4 := by rw [hb]; simp
    have hiff : sealed body = bs ↔ le (C.sum body) = [c0, c1, c2, c3] := by rw [hb, sealed, List.append_cancel_left_eq]
    rw [hl]
    rw [hb] at hA
    refine (open_long b o cap body c0 c1 c2 c3 w (by omega) (by omega) hT hA).mono ?_
    rintro e w' ⟨hy, hno⟩
    by_cases hs : sealed body = bs
    · obtain ⟨g, cap1, rfl, hg, hown, hA1⟩ := hy (hiff.1 hs)
      have e1 : opened bs = body := by rw [opened, if_neg h4, ht, if_pos hs]
      have e2 : openErr bs = 0 := by rw [openErr, if_neg h4, ht, if_pos hs]
      exact ⟨some ⟨g, 0, none⟩, cap1, by rw [e1, e2], by rw [e1]; exact hown, hA1⟩
    · obtain ⟨rfl, hA1⟩ := hno (fun h => hs (hiff.2 h))
      have e1 : opened bs = [] := by rw [opened, if_neg h4, ht, if_neg hs]
      have e2 : openErr bs = 20 := by rw [openErr, if_neg h4, ht, if_neg hs]
      refine ⟨none, 0, by rw [e1, e2]; rfl, ?_, hA1⟩
      rw [e1]
      exact World.ownsRow_nil _ _ _ _

end Go.Proofs.YtcablnjhfocogaaDoor
