/- What an act of a pair of pools leaves; losses. -/
import Derived.Test.YtjlennpoaefllaaGreatDoorQ37
import Derived.Test.YtjlennpoaefllaaGreatDoorQ16
import Derived.Test.YtjlennpoaefllaaGreatDoorQ27
namespace Go.Proofs.YtjlennpoaefllaaGreatDoor
open Go.RowKit
theorem KeptAt.adds {w w' : World} {ka : Option Addr} {ks : List Bool} (h : KeptAt w ka ks) (hA : Adds w w') : KeptAt w' ka ks := fun j hj => by
  obtain ⟨b, o, e, hc⟩ := h j hj
  exact ⟨b, o, e, below_adds hA hc⟩
set_option maxRecDepth 100000 in
theorem ref_lost {w w' : World} {E : dSt} {e : Ending} (h : PRLose w w.heap.size E e w') : ∃ p, e = .returned (.tuple #[Ptr p, .int .i64 0]) ∧ Hid (∃ OR, IsRO w' OR p E ∧ (∀ k, OR k → w.heap.size ≤ k ∧ k < w'.heap.size) ∧ Adds w w') := by
  obtain ⟨p, hv, he, hp, hr, hA⟩ := h
  refine ⟨p, he, fun k => w.heap.size ≤ k ∧ k < w'.heap.size, ⟨hv, _, hr.mono (Nat.zero_le _), ⟨hp, (Array.getElem?_eq_some_iff.1 hr.box).1⟩, fun k hk => ?_, fun k hk => (by cases hk)⟩, fun k c => c, hA⟩
  obtain ⟨_, hc⟩ := own_type hr.held hk
  refine ⟨?_, (Array.getElem?_eq_some_iff.1 hc).1⟩
  rcases hr.held.2 with ⟨c, _⟩ | ⟨g, cap, cur, c, hb, _⟩
  · rw [c] at hk; cases hk
  · rw [c] at hk
    obtain rfl : g = k := by simpa [Value.ownBlock] using hk
    exact hb
set_option maxRecDepth 100000 in
/-- The pair's box turns. -/
theorem PdE11.box {w0 w w' : World} {d r pp : Nat} {o o' : Obj} {X : List (Nat × Obj)} {D D' : dSt} (h : PdE11 w0 w X d r D D') (hm : (pp, o) ∈ X) (hT : Touch (fun k => k = pp) w w') (hpp : w0.heap.size ≤ pp) (ho : w'.heap[pp]? = some o') : PdE11 w0 w' [(pp, o')] d r D D' := by
  obtain ⟨OD, OR, h⟩ := h
  have hn := (h.oth _ hm).2
  refine ⟨OD, OR, h.dk.touch hT (fun k c e => hn (.inl (by rw [← e]; exact c))), h.ro.touch hT (fun k c e => hn (.inr (by rw [← e]; exact c))), h.ap, h.low, fun k c => Nat.lt_of_lt_of_le (h.lt k c) hT.size, h.base.then hT (fun k hk c => by omega), fun x hx => ?_⟩
  obtain rfl := List.mem_singleton.1 hx
  exact ⟨ho, hn⟩
theorem dnew_ok11 (n : Int) (k : Nat) (h : 0 < n) : DOk (dSt.new n) k := ⟨Nat.zero_le _, Int.le_refl _, by show (0 : Int) ≤ k; omega, Int.le_refl _, by show (-1 : Int) ≤ _; decide, h⟩
/-- Bytes turn, all else stays. -/
def TrnB (T : Nat → Prop) (w wr : World) : Prop := Touch T w wr ∧ (∀ a z, w.cell? a = some (.int .u8 z) → ∃ z', wr.cell? a = some (.int .u8 z')) ∧ ∀ a, wr.frozen? a = w.frozen? a
theorem TrnB.refl (T : Nat → Prop) (w : World) : TrnB T w w := ⟨Touch.refl _ _, fun _ z h => ⟨z, h⟩, fun _ => rfl⟩
set_option maxRecDepth 100000 in
theorem TrnB.set {T : Nat → Prop} {w wr : World} (h : TrnB T w wr) {g j : Nat} (hB : T g) (z' : Int) : TrnB T w (wr.setCell ⟨g, j, none⟩ (.int .u8 z')) := by
  refine ⟨Touch.setCell (T := T) h.1 (p := ⟨g, j, none⟩) (fun _ => hB) _, fun a z0 ha => ?_, fun a => by rw [World.frozen?_setCell]; exact h.2.2 a⟩
  by_cases e : (⟨g, j, none⟩ : Addr) = a
  · obtain ⟨z1, h1⟩ := h.2.1 a z0 ha
    rw [← e] at h1 ⊢
    exact ⟨z', World.cell?_setCell_same _ _ _ h1⟩
  · rw [World.cell?_setCell_other _ _ _ _ e]
    exact h.2.1 a z0 ha
end Go.Proofs.YtjlennpoaefllaaGreatDoor
