/- Texts put together: FLay, FSort. -/
import Derived.Ground.NamesProg
import Derived.Shelf.Sort.Plain
import Derived.Shelf.Slices.In.SortNone
import Derived.Test.YtjlennpoaefllaaGreatDoorProg
import Derived.Test.YtjlennpoaefllaaGreatDoorQ06
import Derived.Sort.OwnSortedInts
/- The numbers under which the library's sort of ints stands in this program. -/
namespace Go.Proofs
open Go.Shelf
end Go.Proofs

/- Numbers that are sorted by the library: a row of one's own stands in order then. -/
namespace Go.Proofs.YtjlennpoaefllaaGreatDoor
open Go.RowKit Go.Sort

/-- Numbers as cells. -/
def I (zs : List Int) : List Value := zs.map (Value.int .i64)
/-- Numbers, rising. -/
def rise (zs : List Int) : List Int := zs.mergeSort fun x y => decide (x ≤ y)
theorem rise_perm (zs : List Int) : (rise zs).Perm zs := List.mergeSort_perm zs _
set_option maxRecDepth 100000 in
theorem rise_sorted (zs : List Int) : (rise zs).Pairwise (· ≤ ·) := by
  have := List.pairwise_mergeSort (le := fun x y : Int => decide (x ≤ y)) (fun a b c h1 h2 => by simp at *; omega) (fun a b => by simp; omega) zs
  exact this.imp (fun h => by simpa using h)
/-- What is rising, and has the same numbers, is it. -/
theorem rise_eq {zs ys : List Int} (hp : ys.Perm zs) (hs : ys.Pairwise (· ≤ ·)) : rise zs = ys :=
  ((rise_perm zs).trans hp.symm).eq_of_pairwise (fun _ _ _ _ h1 h2 => Int.le_antisymm h1 h2) (rise_sorted zs) hs
theorem rise_of_perm {zs ys : List Int} (hp : ys.Perm zs) : rise ys = rise zs := (rise_eq (hp.symm.trans (rise_perm ys).symm |>.symm) (rise_sorted ys)).symm

end Go.Proofs.YtjlennpoaefllaaGreatDoor
