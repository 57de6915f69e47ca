/- Texts put together: DRef3, DPend. -/
import Derived.Test.YtmmgfankbabfbaaDoorQ14
import Derived.Test.YtmmgfankbabfbaaDoorQ15
import Derived.Test.YtmmgfankbabfbaaDoorQ13
import Derived.Deep.QuietTactic
import Derived.BigQuiet
/- The reference's Pending, Ints and Put. -/
namespace Go.Proofs.YtmmgfankbabfbaaDoor
open Go.RowKit

/-- Numbers as cells. -/
def I64s (zs : List Int) : List Value := zs.map (Value.int .i64)
/-- The sectors of the writes that wait. -/
def places (W : List (Int × List UInt8)) : List Int := W.map (·.1)

set_option maxRecDepth 100000 in
theorem info3all : ∃ i, Tryd.prog.info? 3 = some i ∧ i.zero = some (.int .i64 0) ∧ i.size = 1 ∧ i.bytes = 8 := by
  have h : (Tryd.prog.info? 3).map (fun i => (i.zero, i.size, i.bytes)) = some (some (.int .i64 0), 1, 8) := by kernel_rfl
  cases hq : Tryd.prog.info? 3 with
  | none => rw [hq] at h; cases h
  | some i =>
    rw [hq] at h
    simp only [Option.map_some, Option.some.injEq, Prod.mk.injEq] at h
    exact ⟨i, rfl, h.1, h.2.1, h.2.2⟩
theorem one_int (z : Int) : ∀ u ∈ [Value.int .i64 z], u.oneCell' = true := fun u hu => by obtain rfl := List.mem_singleton.1 hu; rfl
set_option maxRecDepth 100000 in
theorem places_snoc (W : List (Int × List UInt8)) (k : Nat) (h : k < W.length) : I64s (places (W.take k)) ++ [.int .i64 W[k].1] = I64s (places (W.take (k + 1))) := by
  rw [List.take_add_one, List.getElem?_eq_getElem h, Option.toList_some]
  simp only [I64s, places, List.map_append, List.map_cons, List.map_nil]

/-- What Pending tells: numbers in new memory. -/
def PPend (w : World) (zs : List Int) (e : Ending) (w' : World) : Prop := ∃ v, e = .returned v ∧ w'.ownsRow w.heap.size 3 1 v zs.length (I64s zs) ∧ Adds w w'

/-- Where numbers lie. -/
def IntsAt (w : World) (a : Option Addr) (zs : List Int) : Prop := ∀ j (h : j < zs.length), ∃ b o, a = some ⟨b, o, none⟩ ∧ w.cell? ⟨b, o + j, none⟩ = some (.int .i64 zs[j])
set_option maxRecDepth 100000 in
theorem own_ints {w : World} {B : Nat} {v : Value} {zs : List Int} (h : w.ownsRow B 3 1 v zs.length (I64s zs)) : ∃ a cap, v = .slice a zs.length cap ∧ IntsAt w a zs := by
  rcases h.2 with ⟨e, hn⟩ | ⟨g, cap, cur, e, _, hgg, hnc, _⟩
  · exact ⟨none, 0, by rw [e, hn], fun j hj => by omega⟩
  · have hh := h
    rw [e] at hh
    refine ⟨some ⟨g, 0, none⟩, cap, e, fun j hj => ⟨g, 0, rfl, ?_⟩⟩
    rw [Nat.zero_add, hh.cellAt j (by omega)]
    simp [I64s, hj]

set_option maxRecDepth 100000 in
set_option maxHeartbeats 400000 in
theorem rput_bad (B p : Nat) (hv wv : Value) (D : dSt) (i : Int) (bs : List UInt8) (w : World) (hd : IsRef w B p hv wv D) (hi : ¬ (0 ≤ i ∧ i < D.size) ∨ bs.length ≠ 256) :
    Calls Tryd.prog 49 #[.pointer (some ⟨p, 0, none⟩), .int .i64 i, Str bs] w fun e w' => e = .returned (.int .i64 2) ∧ w' = w := by
  obtain ⟨g, cap, rfl, hcap, _, _, _⟩ := hd.heldAt
  have hs := hd.size
  have c0 : w.cell? ⟨p, 0, none⟩ = some (.slice (some ⟨g, 0, none⟩) D.size.toNat cap) := cellOf hd.box 0
  have hq : ((D.size.toNat : Nat) : Int) = D.size := Int.toNat_of_nonneg (by have := hs.1; clear hd c0; omega)
  clear hd
  unfold Str
  by_cases h0 : i < 0
  · go_enter Tryd.func49, Tryd.ntmps49
    go_wp2
    go_ret
    exact ⟨rfl, rfl⟩
  · by_cases h1 : D.size ≤ i
    · have h2 : decide (D.size ≤ i) = true := by simpa using h1
      clear hi
      go_enter Tryd.func49, Tryd.ntmps49
      go_wp2
      go_ret
      exact ⟨rfl, rfl⟩
    · have h2 : decide (D.size ≤ i) = false := by simp; omega
      have h3 : bs.length ≠ 256 := by rcases hi with h | h; exact absurd ⟨by omega, by omega⟩ h; exact h
      have h4 : ((bs.length : Int) == 256) = false := by simp; omega
      have h5 : (⟨bs.toArray⟩ : ByteArray).size = bs.length := by simp [ByteArray.size]
      clear hi h3
      go_enter Tryd.func49, Tryd.ntmps49
      go_wp2
      go_ret
      exact ⟨rfl, rfl⟩

set_option maxRecDepth 100000 in
set_option maxHeartbeats 400000 in
theorem rput_off (B p : Nat) (hv wv : Value) (D : dSt) (i : Int) (bs : List UInt8) (w : World) (hd : IsRef w B p hv wv D) (hi : 0 ≤ i ∧ i < D.size) (hbs : bs.length = 256) (hon : D.left = 0) :
    Calls Tryd.prog 49 #[.pointer (some ⟨p, 0, none⟩), .int .i64 i, Str bs] w fun e w' => e = .returned (.int .i64 10) ∧ w' = w := by
  obtain ⟨g, cap, rfl, hcap, _, _, _⟩ := hd.heldAt
  have hs := hd.size
  have c0 : w.cell? ⟨p, 0, none⟩ = some (.slice (some ⟨g, 0, none⟩) D.size.toNat cap) := cellOf hd.box 0
  have c3 : w.cell? ⟨p, 3, none⟩ = some (.int .i64 D.left) := cellOf hd.box 3
  rw [hon] at c3
  have hq : ((D.size.toNat : Nat) : Int) = D.size := Int.toNat_of_nonneg (by have := hs.1; clear hd c0 c3; omega)
  have h0 : ¬ i < 0 := by omega
  have h2 : decide (D.size ≤ i) = false := by simp; omega
  have h5 : (⟨bs.toArray⟩ : ByteArray).size = 256 := by simp [ByteArray.size, hbs]
  clear hd hi
  unfold Str
  go_enter Tryd.func49, Tryd.ntmps49
  go_wp2
  go_ret
  exact ⟨rfl, rfl⟩

end Go.Proofs.YtmmgfankbabfbaaDoor

/- Pending; the bytes of an act. -/
namespace Go.Proofs.YtmmgfankbabfbaaDoor
open Go.RowKit
set_option maxRecDepth 100000 in
theorem dwrap_byte (x : Int) : ∃ c : UInt8, IntKind.u8.wrap x = (c.toNat : Int) := by
  have h : 0 ≤ IntKind.u8.wrap x ∧ IntKind.u8.wrap x < 256 := by
    simp only [IntKind.wrap]
    exact ⟨Int.emod_nonneg _ (by decide), Int.emod_lt_of_pos _ (by decide)⟩
  refine ⟨UInt8.ofNat (IntKind.u8.wrap x).toNat, ?_⟩
  have : (UInt8.ofNat (IntKind.u8.wrap x).toNat).toNat = (IntKind.u8.wrap x).toNat := by simp; omega
  rw [this]; omega

set_option maxRecDepth 100000 in

set_option maxRecDepth 100000 in
theorem make255 (w : World) : (Instr.makeSlice 91 (.int .i64 255) (.int .i64 255)).run Tryd.prog w = .ok (.slice (some ⟨w.heap.size, 0, none⟩) 255 255) (w.alloc (.cells (S (List.replicate 255 0)).toArray 5)) := by kernel_rfl

set_option maxRecDepth 100000 in
theorem S_put (bs : List UInt8) (a : Nat) (b : UInt8) : (S bs).toArray.setIfInBounds a (.int .u8 (b.toNat : Int)) = (S (bs.set a b)).toArray := by
  simp only [S, List.setIfInBounds_toArray, List.map_set]; rfl
set_option maxRecDepth 100000 in
theorem dBytes.cell {w : World} {g : Nat} {bs : List UInt8} (h : dBytes w g bs) (j : Nat) (hj : j < bs.length) : w.cell? ⟨g, j, none⟩ = some (.int .u8 (bs[j].toNat : Int)) := by
  rw [cellOf h, List.getElem?_toArray, S_get, List.getElem?_eq_getElem hj]; rfl
set_option maxRecDepth 100000 in
theorem dBytes.put {w : World} {g : Nat} {bs : List UInt8} (h : dBytes w g bs) (j : Nat) (z : Int) : ∃ bs', bs'.length = bs.length ∧ dBytes (w.setCell ⟨g, j, none⟩ (.int .u8 (IntKind.u8.wrap z))) g bs' := by
  obtain ⟨c, hc⟩ := dwrap_byte z
  refine ⟨bs.set j c, List.length_set, ?_⟩
  show _ = _
  rw [hc, heap_setCell_same w g j _ 5 _ h, S_put]

/-- What body tells: n bytes in new memory. -/
def PBody (w : World) (n : Nat) (e : Ending) (w' : World) : Prop := ∃ g bs, e = .returned (.slice (some ⟨g, 0, none⟩) n n) ∧ w.heap.size ≤ g ∧ bs.length = n ∧ dBytes w' g bs ∧ Adds w w'

end Go.Proofs.YtmmgfankbabfbaaDoor
