/- Texts put together: FLay, FSort. -/
import Derived.Ground.NamesProg
import Derived.Shelf.Sort.Plain
import Derived.Shelf.Slices.In.SortNone
import Derived.Test.YtjlennpoaefllaaGreatDoorProg
import Derived.Test.YtjlennpoaefllaaGreatDoorQ06
import Derived.Sort.OwnSortedInts
/- The numbers under which the library's sort of ints stands in this program. -/
namespace Go.Proofs
open Go.Shelf
def YtjlennpoaefllaaGreatDoor.lays189_ren : Go.Shelf.Ren := ⟨fun | 189 => 132 | 125 => 150 | 257 => 149 | 128 => 167 | 129 => 168 | 294 => 158 | 295 => 159 | 296 => 160 | 297 => 161 | 298 => 162 | 299 => 163 | 216 => 164 | 300 => 165 | 301 => 166 | 328 => 174 | 329 => 175 | 330 => 176 | 331 => 177 | 332 => 178 | 215 => 179 | 343 => 181 | n => n, fun | 28 => 64 | 3 => 3 | 46 => 128 | 0 => 0 | 51 => 190 | 53 => 73 | 4 => 4 | 183 => 201 | 182 => 200 | 131 => 122 | 5 => 5 | 9 => 9 | 218 => 213 | 222 => 217 | 228 => 221 | 229 => 98 | n => n, fun | n => n⟩
theorem YtjlennpoaefllaaGreatDoor.lays189 : Go.Proofs.Lays.n189 Tryz.prog YtjlennpoaefllaaGreatDoor.lays189_ren := {
  mixed := by kernel_rfl
  f125 := Tryz.func150.trans (congrArg some (by kernel_rfl))
  f128 := Tryz.func167.trans (congrArg some (by kernel_rfl))
  f129 := Tryz.func168.trans (congrArg some (by kernel_rfl))
  f189 := Tryz.func132.trans (congrArg some (by kernel_rfl))
  f215 := Tryz.func179.trans (congrArg some (by kernel_rfl))
  f216 := Tryz.func164.trans (congrArg some (by kernel_rfl))
  f257 := Tryz.func149.trans (congrArg some (by kernel_rfl))
  f294 := Tryz.func158.trans (congrArg some (by kernel_rfl))
  f295 := Tryz.func159.trans (congrArg some (by kernel_rfl))
  f296 := Tryz.func160.trans (congrArg some (by kernel_rfl))
  f297 := Tryz.func161.trans (congrArg some (by kernel_rfl))
  f298 := Tryz.func162.trans (congrArg some (by kernel_rfl))
  f299 := Tryz.func163.trans (congrArg some (by kernel_rfl))
  f300 := Tryz.func165.trans (congrArg some (by kernel_rfl))
  f301 := Tryz.func166.trans (congrArg some (by kernel_rfl))
  f328 := Tryz.func174.trans (congrArg some (by kernel_rfl))
  f329 := Tryz.func175.trans (congrArg some (by kernel_rfl))
  f330 := Tryz.func176.trans (congrArg some (by kernel_rfl))
  f331 := Tryz.func177.trans (congrArg some (by kernel_rfl))
  f332 := Tryz.func178.trans (congrArg some (by kernel_rfl))
  f343 := Tryz.func181.trans (congrArg some (by kernel_rfl))
  t0 := Tryz.underlying0
  a0 := Tryz.isAgg0
  z0 := Tryz.sizeOf0
  v0 := Tryz.zeroValue0
  t3 := Tryz.underlying3
  a3 := Tryz.isAgg3
  z3 := Tryz.sizeOf3
  v3 := Tryz.zeroValue3
  t4 := Tryz.underlying4
  a4 := Tryz.isAgg4
  z4 := Tryz.sizeOf4
  v4 := Tryz.zeroValue4
  t5 := Tryz.underlying5
  a5 := Tryz.isAgg5
  z5 := Tryz.sizeOf5
  v5 := Tryz.zeroValue5
  t9 := Tryz.underlying9
  a9 := Tryz.isAgg9
  z9 := Tryz.sizeOf9
  v9 := Tryz.zeroValue9
  t28 := Tryz.underlying64
  a28 := Tryz.isAgg64
  z28 := Tryz.sizeOf64
  v28 := Tryz.zeroValue64
  t46 := Tryz.underlying128
  a46 := Tryz.isAgg128
  z46 := Tryz.sizeOf128
  v46 := Tryz.zeroValue128
  t51 := Tryz.underlying190
  a51 := Tryz.isAgg190
  z51 := Tryz.sizeOf190
  v51 := Tryz.zeroValue190
  t53 := Tryz.underlying73
  a53 := Tryz.isAgg73
  z53 := Tryz.sizeOf73
  v53 := Tryz.zeroValue73
  t131 := Tryz.underlying122
  a131 := Tryz.isAgg122
  z131 := Tryz.sizeOf122
  v131 := Tryz.zeroValue122
  t182 := Tryz.underlying200
  a182 := Tryz.isAgg200
  z182 := Tryz.sizeOf200
  v182 := Tryz.zeroValue200
  t183 := Tryz.underlying201
  a183 := Tryz.isAgg201
  z183 := Tryz.sizeOf201
  v183 := Tryz.zeroValue201
  t218 := Tryz.underlying213
  a218 := Tryz.isAgg213
  z218 := Tryz.sizeOf213
  v218 := Tryz.zeroValue213
  t222 := Tryz.underlying217
  a222 := Tryz.isAgg217
  z222 := Tryz.sizeOf217
  v222 := Tryz.zeroValue217
  t228 := Tryz.underlying221
  a228 := Tryz.isAgg221
  z228 := Tryz.sizeOf221
  v228 := Tryz.zeroValue221
  t229 := Tryz.underlying98
  a229 := Tryz.isAgg98
  z229 := Tryz.sizeOf98
  v229 := Tryz.zeroValue98 }
end Go.Proofs

/- Numbers that are sorted by the library: a row of one's own stands in order then. -/
namespace Go.Proofs.YtjlennpoaefllaaGreatDoor
open Go.RowKit Go.Sort

/-- Numbers as cells. -/
def I (zs : List Int) : List Value := zs.map (Value.int .i64)
/-- Numbers, rising. -/
def rise (zs : List Int) : List Int := zs.mergeSort fun x y => decide (x ≤ y)
theorem rise_perm (zs : List Int) : (rise zs).Perm zs := List.mergeSort_perm zs _
theorem length_rise (zs : List Int) : (rise zs).length = zs.length := (rise_perm zs).length_eq
set_option maxRecDepth 100000 in
theorem rise_sorted (zs : List Int) : (rise zs).Pairwise (· ≤ ·) := by
  have := List.pairwise_mergeSort (le := fun x y : Int => decide (x ≤ y)) (fun a b c h1 h2 => by simp at *; omega) (fun a b => by simp; omega) zs
  exact this.imp (fun h => by simpa using h)
/-- What is rising, and has the same numbers, is it. -/
theorem rise_eq {zs ys : List Int} (hp : ys.Perm zs) (hs : ys.Pairwise (· ≤ ·)) : rise zs = ys :=
  ((rise_perm zs).trans hp.symm).eq_of_pairwise (fun _ _ _ _ h1 h2 => Int.le_antisymm h1 h2) (rise_sorted zs) hs
theorem rise_of_perm {zs ys : List Int} (hp : ys.Perm zs) : rise ys = rise zs := (rise_eq (hp.symm.trans (rise_perm ys).symm |>.symm) (rise_sorted ys)).symm

/-- What sorting leaves. -/
def PSorted (w : World) (v : Value) (zs : List Int) (e : Ending) (w' : World) : Prop := e = .returned (.tuple #[]) ∧ w'.ownsRow 0 3 1 v zs.length (I (rise zs)) ∧ Touch (fun k => v.ownBlock = some k) w w'
set_option maxRecDepth 100000 in
theorem sort_any {w : World} {v : Value} {zs : List Int} (hown : w.ownsRow 0 3 1 v zs.length (I zs)) (hl : zs.length ≤ 100000) : Calls Tryz.prog 132 #[v] w (PSorted w v zs) := by
  rcases hown.2 with ⟨rfl, h0⟩ | ⟨g, cap, cur, rfl, hbase, hb, h1, h2, h3, h4⟩
  · obtain rfl : zs = [] := List.eq_nil_of_length_eq_zero h0
    refine Calls.mono (show Calls Tryz.prog 132 #[.slice none 0 0] w _ from Any.slices_Sort_int_none lays189 none 0 w) ?_
    rintro e w' ⟨rfl, rfl⟩
    exact ⟨rfl, by simpa [rise, I] using hown, Touch.refl _ _⟩
  · have hc : Calls Tryz.prog 132 #[.slice (some ⟨g, 0, none⟩) zs.length cap] w _ := Any.slices_Sort_int lays189 g 0 cap zs w (holds_of_blockI hb (by simpa [I] using h4)) (Array.getElem?_eq_some_iff.1 hb).1 (by omega)
    refine hc.mono ?_
    rintro e w' ⟨rfl, n, os, rfl⟩
    have hg := grownBy_sortedI (w := w) (g := g) (n := n) (os := os) (rise zs).toArray
    refine ⟨rfl, ?_, ⟨hg.os, hg.tape, hg.output, hg.size, fun k hk hn => hg.block k hk (fun e => hn (by rw [e]; rfl))⟩⟩
    exact ownsRow_sortedI (length_rise zs) hbase hb h1 h2 h3
end Go.Proofs.YtjlennpoaefllaaGreatDoor
