/- Texts put together: DRef3, DPend. -/
import Derived.Test.YtllkplanjfnnmaaDoorQ15
import Derived.Test.YtllkplanjfnnmaaDoorQ16
import Derived.Test.YtllkplanjfnnmaaDoorQ14
import Derived.Deep.QuietTactic
import Derived.BigQuiet
/- The reference's Pending, Ints and Put. -/
namespace Go.Proofs.YtllkplanjfnnmaaDoor
open Go.RowKit

/-- Numbers as cells. -/
def I64s (zs : List Int) : List Value := zs.map (Value.int .i64)
/-- The sectors of the writes that wait. -/
def places (W : List (Int × List UInt8)) : List Int := W.map (·.1)

set_option maxRecDepth 100000 in
theorem info3all : ∃ i, Tryd.prog.info? 3 = some i ∧ i.zero = some (.int .i64 0) ∧ i.size = 1 ∧ i.bytes = 8 := by
  have h : (Tryd.prog.info? 3).map (fun i => (i.zero, i.size, i.bytes)) = some (some (.int .i64 0), 1, 8) := by kernel_rfl
  cases hq : Tryd.prog.info? 3 with
  | none => rw [hq] at h; cases h
  | some i =>
    rw [hq] at h
    simp only [Option.map_some, Option.some.injEq, Prod.mk.injEq] at h
    exact ⟨i, rfl, h.1, h.2.1, h.2.2⟩
theorem one_int (z : Int) : ∀ u ∈ [Value.int .i64 z], u.oneCell' = true := fun u hu => by obtain rfl := List.mem_singleton.1 hu; rfl
set_option maxRecDepth 100000 in
theorem places_snoc (W : List (Int × List UInt8)) (k : Nat) (h : k < W.length) : I64s (places (W.take k)) ++ [.int .i64 W[k].1] = I64s (places (W.take (k + 1))) := by
  rw [List.take_add_one, List.getElem?_eq_getElem h, Option.toList_some]
  simp only [I64s, places, List.map_append, List.map_cons, List.map_nil]

/-- What Pending tells: numbers in new memory. -/
def PPend (w : World) (zs : List Int) (e : Ending) (w' : World) : Prop := ∃ v, e = .returned v ∧ w'.ownsRow w.heap.size 3 1 v zs.length (I64s zs) ∧ Adds w w'

/-- Where numbers lie. -/
def IntsAt (w : World) (a : Option Addr) (zs : List Int) : Prop := ∀ j (h : j < zs.length), ∃ b o, a = some ⟨b, o, none⟩ ∧ w.cell? ⟨b, o + j, none⟩ = some (.int .i64 zs[j])
set_option maxRecDepth 100000 in
theorem own_ints {w : World} {B : Nat} {v : Value} {zs : List Int} (h : w.ownsRow B 3 1 v zs.length (I64s zs)) : ∃ a cap, v = .slice a zs.length cap ∧ IntsAt w a zs := by
  rcases h.2 with ⟨e, hn⟩ | ⟨g, cap, cur, e, _, hgg, hnc, _⟩
  · exact ⟨none, 0, by rw [e, hn], fun j hj => by omega⟩
  · have hh := h
    rw [e] at hh
    refine ⟨some ⟨g, 0, none⟩, cap, e, fun j hj => ⟨g, 0, rfl, ?_⟩⟩
    rw [Nat.zero_add, hh.cellAt j (by omega)]
    simp [I64s, hj]

end Go.Proofs.YtllkplanjfnnmaaDoor

/- Pending; the bytes of an act. -/
namespace Go.Proofs.YtllkplanjfnnmaaDoor
open Go.RowKit
set_option maxRecDepth 100000 in
theorem dwrap_byte (x : Int) : ∃ c : UInt8, IntKind.u8.wrap x = (c.toNat : Int) := by
  have h : 0 ≤ IntKind.u8.wrap x ∧ IntKind.u8.wrap x < 256 := by
    simp only [IntKind.wrap]
    exact ⟨Int.emod_nonneg _ (by decide), Int.emod_lt_of_pos _ (by decide)⟩
  refine ⟨UInt8.ofNat (IntKind.u8.wrap x).toNat, ?_⟩
  have : (UInt8.ofNat (IntKind.u8.wrap x).toNat).toNat = (IntKind.u8.wrap x).toNat := by simp; omega
  rw [this]; omega

set_option maxRecDepth 100000 in

set_option maxRecDepth 100000 in
set_option maxHeartbeats 1000000 in
theorem pending_any (B p hb : Nat) (wv : Value) (D : dSt) (w : World) (hd : IsDisk w B p hb wv D) (hl : D.W.length ≤ 1000) (hsz : 0 < D.size) :
    Calls Tryd.prog 24 #[.pointer (some ⟨p, 0, none⟩)] w (PPend w (places D.W)) := by
  have hzv := zero76
  have d1 : decide (0 < D.size) = true := by simpa using hsz
  have m1 := made_any p D.size w (cellOf hd.box 0)
  rw [d1] at m1
  have M1 := hid m1
  obtain ⟨ao, wcap, rfl, hwcap, hrest⟩ := hd.slice
  obtain ⟨i3, hi3, hz0, hz1, hz2⟩ := info3all
  have c2 : w.cell? ⟨p, 2, none⟩ = some (.slice ao D.W.length wcap) := cellOf hd.box 2
  have HR := hid hrest
  have HGW := hid hd.goodW
  have B2 := hid (show i3.bytes * D.W.length ≤ 281474976710656 by rw [hz2]; omega)
  have B3 := hid (show D.W.length ≤ maxLen by unfold maxLen; omega)
  have HKE := hid (show ∀ w', w.grownBy w' none → w'.cell? ⟨p, 2, none⟩ = some (.slice ao D.W.length wcap) ∧ Adds w w' from fun w' hg =>
    have hA : Adds w w' := Touch.grown (Touch.refl _ w) hg (fun k hk _ => by cases hk)
    ⟨below_adds hA c2, hA⟩)
  clear hd hrest m1 d1
  go_enter Tryd.func24, Tryd.ntmps24
  go_wp2_with (first
    | (go_at_call 36; refine M1.out.mono ?_; rintro e _ ⟨rfl, hw⟩; rw [hw])
    | (at_make; refine wpList_make_own _ rfl _ _ 59 rfl w.heap.size 3 i3 (.int .i64 0) 1 Tryd.underlying59 hi3 hz0 hz1 .i64 .i64 _ D.W.length rfl rfl rfl B2.out B3.out (Nat.le_refl _) ?_; intro w2 hown2 hg2; obtain ⟨c2', hA2⟩ := HKE.out w2 hg2))
  have H2 := hid hown2
  clear hown2 hg2 c2'
  go_loopw [3, 20] (fun v t wr => ∃ k : Nat, k ≤ D.W.length ∧ t = .int .i64 k ∧ Hid (wr.ownsRow w.heap.size 3 1 v k (I64s (places (D.W.take k))) ∧ Adds w wr)) (fun _ t _ => D.W.length - (intOf t).toNat)
  case atStart => exact ⟨0, Nat.zero_le _, rfl, H2.out, hA2⟩
  case round =>
    obtain ⟨k, hk, rfl, HH⟩ := hrel
    clear H2 hA2
    by_cases hlt : k < D.W.length
    · obtain ⟨g, rfl, hglt, _, _, hr⟩ := HR.out (by omega)
      have hrk : Hid (wr.rangeAt g (k * 257) (wcells D.W[k])) := fun j v hv => by
        rw [World.cell?_of_block (w := w) (HH.out.2.block g hglt id)]
        exact hr k hlt j v hv
      have HSN := hid (places_snoc D.W k hlt)
      have hwl : (wcells D.W[k]).length = 257 := length_wcells _ (HGW.out _ (List.getElem_mem hlt))
      have hi76 : Hid ((Tryd.prog.info? 75).map (·.size) = some (wcells D.W[k]).length) := show _ = _ by rw [info76, hwl]
      have hi76a : Hid ((Tryd.prog.info? 75).map (·.size) = some (wcells D.W[k]).toArray.size) := show _ = _ by rw [info76, List.size_toArray, hwl]
      have ho76 : Hid ((.int .i64 0 :: S zeros).toArray.size = (wcells D.W[k]).toArray.size) := show _ = _ by rw [List.size_toArray, List.size_toArray, List.length_cons, length_S, length_zeros, hwl]
      have hset : (wr.alloc (.cells (.int .i64 0 :: S zeros).toArray 75)).setRow wr.heap.size (wcells D.W[k]).toArray = wr.alloc (.cells (wcells D.W[k]).toArray 75) := World.setRow_alloc_new _ _ _ _
      clear hr hwl HR HGW
      generalize D.W[k] = x at *
      go_upto_region 6 with fail
      go_cut [3, 5, 20] (fun t3 t5 t20 w' => t3 = u3 ∧ t20 = .int .i64 k ∧ t5 = .pointer (some ⟨wr.heap.size, 0, none⟩) ∧ w' = wr.alloc (.cells (wcells x).toArray 75))
      case first =>
        go_wp2_with (first
          | (refine wpList_load_mid rfl 75 _ rfl g (k * 257) rfl (wcells x) _ hrk.out Tryd.underlying75 rfl hi76.out ?_)
          | (refine wpList_store_row rfl 75 _ _ rfl wr.heap.size (wcells x).toArray rfl rfl 75 (.int .i64 0 :: S zeros).toArray (heap_alloc_new wr _) hi76a.out ho76.out (all_oneCell_toArray (one_wcells _)) ?_))
        simp only [Act.put]
        go_meet
        case rel => exact ⟨rfl, rfl, rfl, hset⟩
      case rest =>
        rename World => w5
        obtain ⟨rfl, rfl, rfl, hw5⟩ := hcut
        have hA5 : Adds wr w5 := by rw [hw5]; exact (Touch.refl _ wr).alloc _
        have x0 : w5.cell? ⟨wr.heap.size, 0, none⟩ = some (.int .i64 x.1) := by rw [hw5]; exact cellOf (heap_alloc_new wr _) 0
        have HO5 := hid (own_kept HH.out.1 hA5 (fun _ _ => id))
        have HA5 := hid (HH.out.2.trans hA5)
        clear hset hw5 hi76 hi76a ho76 hrk hzv hA5
        have HOWN := hid (HO5.out.alloc (.cells #[.int .i64 x.1] 3))
        have H3 := hid (show k + 1 ≤ maxLen by unfold maxLen; omega)
        have H4 := hid (show (k + 1) * 8 ≤ 140737488355328 by omega)
        have H5 := hid (show w.heap.size ≤ (w5.alloc (.cells #[.int .i64 x.1] 3)).heap.size by have := HA5.out.size; simp; omega)
        go_wp2_with (at_builtin; refine wpList_append_own _ rfl _ _ 59 rfl w.heap.size 3 i3 (.int .i64 0) 1 8 Tryd.underlying59 hi3 hz0 hz1 hz2 rfl (by decide) _ k (I64s (places (D.W.take k))) rfl HOWN.out ⟨w5.heap.size, 0, none⟩ 1 1 [.int .i64 x.1] rfl rfl (cell_one_new _ _ _) (one_int _) H3.out H4.out H5.out ?_; intro v' w6 hown' hgrow' _; obtain ⟨g', cap', rfl⟩ := own_some hown')
        go_roundw
        case rel =>
          refine ⟨k + 1, by omega, by go_num, ?_, ?_⟩
          · rw [HSN.out] at hown'; exact hown'
          · exact Touch.grown (T := fun _ => False) (HA5.out.alloc _) hgrow' (fun j hj hlt => by have := (HH.out.1.lt j hj).1; omega)
        case measure => simp [intOf]; omega
    · obtain rfl : k = D.W.length := by omega
      go_wp2
      go_ret
      refine ⟨_, rfl, ?_, HH.out.2⟩
      have := HH.out.1
      rw [List.take_length] at this
      rw [show (places D.W).length = D.W.length from List.length_map _]; exact this

set_option maxRecDepth 100000 in
theorem make255 (w : World) : (Instr.makeSlice 22 (.int .i64 255) (.int .i64 255)).run Tryd.prog w = .ok (.slice (some ⟨w.heap.size, 0, none⟩) 255 255) (w.alloc (.cells (S (List.replicate 255 0)).toArray 5)) := by kernel_rfl

set_option maxRecDepth 100000 in
theorem S_put (bs : List UInt8) (a : Nat) (b : UInt8) : (S bs).toArray.setIfInBounds a (.int .u8 (b.toNat : Int)) = (S (bs.set a b)).toArray := by
  simp only [S, List.setIfInBounds_toArray, List.map_set]; rfl
set_option maxRecDepth 100000 in
theorem dBytes.cell {w : World} {g : Nat} {bs : List UInt8} (h : dBytes w g bs) (j : Nat) (hj : j < bs.length) : w.cell? ⟨g, j, none⟩ = some (.int .u8 (bs[j].toNat : Int)) := by
  rw [cellOf h, List.getElem?_toArray, S_get, List.getElem?_eq_getElem hj]; rfl
set_option maxRecDepth 100000 in
theorem dBytes.put {w : World} {g : Nat} {bs : List UInt8} (h : dBytes w g bs) (j : Nat) (z : Int) : ∃ bs', bs'.length = bs.length ∧ dBytes (w.setCell ⟨g, j, none⟩ (.int .u8 (IntKind.u8.wrap z))) g bs' := by
  obtain ⟨c, hc⟩ := dwrap_byte z
  refine ⟨bs.set j c, List.length_set, ?_⟩
  show _ = _
  rw [hc, heap_setCell_same w g j _ 5 _ h, S_put]

/-- What body tells: n bytes in new memory. -/
def PBody (w : World) (n : Nat) (e : Ending) (w' : World) : Prop := ∃ g bs, e = .returned (.slice (some ⟨g, 0, none⟩) n n) ∧ w.heap.size ≤ g ∧ bs.length = n ∧ dBytes w' g bs ∧ Adds w w'

end Go.Proofs.YtllkplanjfnnmaaDoor
