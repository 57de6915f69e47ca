/- Numbers that are sorted by the library: a row of one's own stands in order then. -/
import Derived.Test.YtokbiekdompaoaaDoorQ16
import Derived.Test.YtokbiekdompaoaaDoorQ06
import Derived.Sort.OwnSortedInts
namespace Go.Proofs.YtokbiekdompaoaaDoor
open Go.RowKit Go.Sort

/-- Numbers as cells. -/
def I (zs : List Int) : List Value := zs.map (Value.int .i64)
set_option maxRecDepth 100000 in
theorem length_I (zs : List Int) : (I zs).length = zs.length := by simp [I]
/-- Numbers, rising. -/
def rise (zs : List Int) : List Int := zs.mergeSort fun x y => decide (x ≤ y)
theorem rise_perm (zs : List Int) : (rise zs).Perm zs := List.mergeSort_perm zs _
theorem length_rise (zs : List Int) : (rise zs).length = zs.length := (rise_perm zs).length_eq
set_option maxRecDepth 100000 in
theorem rise_sorted (zs : List Int) : (rise zs).Pairwise (· ≤ ·) := by
  have := List.pairwise_mergeSort (le := fun x y : Int => decide (x ≤ y)) (fun a b c h1 h2 => by simp at *; omega) (fun a b => by simp; omega) zs
  exact this.imp (fun h => by simpa using h)
/-- What is rising, and has the same numbers, is it. -/
theorem rise_eq {zs ys : List Int} (hp : ys.Perm zs) (hs : ys.Pairwise (· ≤ ·)) : rise zs = ys :=
  ((rise_perm zs).trans hp.symm).eq_of_pairwise (fun _ _ _ _ h1 h2 => Int.le_antisymm h1 h2) (rise_sorted zs) hs
theorem rise_of_perm {zs ys : List Int} (hp : ys.Perm zs) : rise ys = rise zs := (rise_eq (hp.symm.trans (rise_perm ys).symm |>.symm) (rise_sorted ys)).symm

/-- What sorting leaves. -/
def PSorted (w : World) (v : Value) (zs : List Int) (e : Ending) (w' : World) : Prop := e = .returned (.tuple #[]) ∧ w'.ownsRow 0 3 1 v zs.length (I (rise zs)) ∧ Touch (fun k => v.ownBlock = some k) w w'
set_option maxRecDepth 100000 in
theorem sort_any {w : World} {v : Value} {zs : List Int} (hown : w.ownsRow 0 3 1 v zs.length (I zs)) (hl : zs.length ≤ 100000) : Calls Tryd.prog 57 #[v] w (PSorted w v zs) := by
  rcases hown.2 with ⟨rfl, h0⟩ | ⟨g, cap, cur, rfl, hbase, hb, h1, h2, h3, h4⟩
  · obtain rfl : zs = [] := List.eq_nil_of_length_eq_zero h0
    refine Calls.mono (show Calls Tryd.prog 57 #[.slice none 0 0] w _ from Any.slices_Sort_int_none lays189 none 0 w) ?_
    rintro e w' ⟨rfl, rfl⟩
    exact ⟨rfl, by simpa [rise, I] using hown, Touch.refl _ _⟩
  · have hc : Calls Tryd.prog 57 #[.slice (some ⟨g, 0, none⟩) zs.length cap] w _ := Any.slices_Sort_int lays189 g 0 cap zs w (holds_of_blockI hb (by simpa [I] using h4)) (Array.getElem?_eq_some_iff.1 hb).1 (by omega)
    refine hc.mono ?_
    rintro e w' ⟨rfl, n, os, rfl⟩
    have hg := grownBy_sortedI (w := w) (g := g) (n := n) (os := os) (rise zs).toArray
    refine ⟨rfl, ?_, ⟨hg.os, hg.tape, hg.output, hg.size, fun k hk hn => hg.block k hk (fun e => hn (by rw [e]; rfl))⟩⟩
    exact ownsRow_sortedI (length_rise zs) hbase hb h1 h2 h3
end Go.Proofs.YtokbiekdompaoaaDoor
