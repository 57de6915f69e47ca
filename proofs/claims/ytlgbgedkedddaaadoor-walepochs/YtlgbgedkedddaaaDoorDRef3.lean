/- The reference's Pending, Ints and Put. -/
import Derived.Test.YtlgbgedkedddaaaDoorDRef2
import Derived.Test.YtlgbgedkedddaaaDoorDUn
import Derived.Test.YtlgbgedkedddaaaDoorDLose
import Derived.Deep.QuietTactic
import Derived.BigQuiet
namespace Go.Proofs.YtlgbgedkedddaaaDoor
open Go.RowKit

/-- Numbers as cells. -/
def I64s (zs : List Int) : List Value := zs.map (Value.int .i64)
/-- The sectors of the writes that wait. -/
def places (W : List (Int × List UInt8)) : List Int := W.map (·.1)

set_option maxRecDepth 100000 in
theorem info3all : ∃ i, Tryd.prog.info? 3 = some i ∧ i.zero = some (.int .i64 0) ∧ i.size = 1 ∧ i.bytes = 8 := by
  have h : (Tryd.prog.info? 3).map (fun i => (i.zero, i.size, i.bytes)) = some (some (.int .i64 0), 1, 8) := by kernel_rfl
  cases hq : Tryd.prog.info? 3 with
  | none => rw [hq] at h; cases h
  | some i =>
    rw [hq] at h
    simp only [Option.map_some, Option.some.injEq, Prod.mk.injEq] at h
    exact ⟨i, rfl, h.1, h.2.1, h.2.2⟩
theorem one_int (z : Int) : ∀ u ∈ [Value.int .i64 z], u.oneCell' = true := fun u hu => by obtain rfl := List.mem_singleton.1 hu; rfl
set_option maxRecDepth 100000 in
theorem places_snoc (W : List (Int × List UInt8)) (k : Nat) (h : k < W.length) : I64s (places (W.take k)) ++ [.int .i64 W[k].1] = I64s (places (W.take (k + 1))) := by
  rw [List.take_add_one, List.getElem?_eq_getElem h, Option.toList_some]
  simp only [I64s, places, List.map_append, List.map_cons, List.map_nil]

/-- What Pending tells: numbers in new memory. -/
def PPend (w : World) (zs : List Int) (e : Ending) (w' : World) : Prop := ∃ v, e = .returned v ∧ w'.ownsRow w.heap.size 3 1 v zs.length (I64s zs) ∧ Adds w w'

/-- Where numbers lie. -/
def IntsAt (w : World) (a : Option Addr) (zs : List Int) : Prop := ∀ j (h : j < zs.length), ∃ b o, a = some ⟨b, o, none⟩ ∧ w.cell? ⟨b, o + j, none⟩ = some (.int .i64 zs[j])
set_option maxRecDepth 100000 in
theorem own_ints {w : World} {B : Nat} {v : Value} {zs : List Int} (h : w.ownsRow B 3 1 v zs.length (I64s zs)) : ∃ a cap, v = .slice a zs.length cap ∧ IntsAt w a zs := by
  rcases h.2 with ⟨e, hn⟩ | ⟨g, cap, cur, e, _, hgg, hnc, _⟩
  · exact ⟨none, 0, by rw [e, hn], fun j hj => by omega⟩
  · have hh := h
    rw [e] at hh
    refine ⟨some ⟨g, 0, none⟩, cap, e, fun j hj => ⟨g, 0, rfl, ?_⟩⟩
    rw [Nat.zero_add, hh.cellAt j (by omega)]
    simp [I64s, hj]

end Go.Proofs.YtlgbgedkedddaaaDoor
