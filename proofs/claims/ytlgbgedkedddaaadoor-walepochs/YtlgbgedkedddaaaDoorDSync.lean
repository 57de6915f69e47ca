/- Sync. -/
import Derived.Test.YtlgbgedkedddaaaDoorDWorks
namespace Go.Proofs.YtlgbgedkedddaaaDoor
open Go.RowKit

/-- What is held behind a sync of W. -/
def syncH (H : Int → List UInt8) (W : List (Int × List UInt8)) : Int → List UInt8 := W.foldl (fun H x => upd H x.1 x.2) H
theorem syncH_has (i : Int) : ∀ (W : List (Int × List UInt8)) (H : Int → List UInt8), syncH H W i = hasOf H W i
  | [], _ => rfl
  | x :: W, H => by
    have ih := syncH_has i W (upd H x.1 x.2)
    simp only [syncH, hasOf, List.foldl_cons] at ih ⊢
    rw [ih]
    congr 1
    unfold upd
    by_cases h : i = x.1
    · rw [if_pos h, if_pos h.symm]
    · rw [if_neg h, if_neg (Ne.symm h)]
set_option maxRecDepth 100000 in
theorem syncH_snoc (H : Int → List UInt8) (W : List (Int × List UInt8)) (k : Nat) (h : k < W.length) : syncH H (W.take (k + 1)) = upd (syncH H (W.take k)) W[k].1 W[k].2 := by
  unfold syncH
  rw [List.take_succ_eq_append_getElem h, List.foldl_append]; rfl

/-- The state behind a sync. -/
def dSt.synced (D : dSt) : dSt := { D with H := syncH D.H D.W, W := [], steps := D.steps + 1, left := less D.left }
/-- What Sync leaves. -/
def PSync (w : World) (B p hb : Nat) (D : dSt) (e : Ending) (w' : World) : Prop := e = .returned (.int .i64 0) ∧ IsDisk w' B p hb (.slice none 0 0) D.synced ∧ Touch (fun k => k = p ∨ k = hb) w w'

set_option maxRecDepth 100000 in
set_option maxHeartbeats 400000 in
theorem sync_off (p : Nat) (n : Int) (w : World) (c0 : w.cell? ⟨p, 0, none⟩ = some (.int .i64 n)) (c4 : w.cell? ⟨p, 4, none⟩ = some (.int .i64 0)) (hn : 0 < n) :
    Calls Tryd.prog 51 #[.pointer (some ⟨p, 0, none⟩)] w fun e w' => e = .returned (.int .i64 10) ∧ w' = w := by
  have d1 : decide (0 < n) = true := by simpa using hn
  have m1 := made_any p n w c0
  have m3 := off_any p 0 w c4
  rw [d1] at m1
  have M1 := hid m1
  have M3 := hid m3
  clear m1 m3 d1 hn c0 c4
  go_enter Tryd.func51, Tryd.ntmps51
  go_wp2_with (first
    | (go_at_call 36; refine M1.out.mono ?_; rintro e w' ⟨rfl, rfl⟩)
    | (go_at_call 37; refine M3.out.mono ?_; rintro e w' ⟨rfl, rfl⟩))
  go_ret
  exact ⟨rfl, rfl⟩

set_option maxRecDepth 100000 in
/-- The memory's side of a sync's end: the slice is nil, one step more. -/
theorem sync_mem {w : World} {B p hb : Nat} {wv : Value} {D : dSt} (hd : IsDisk w B p hb wv D) (s l : Int) :
    IsDisk ((w.setCell ⟨p, 2, none⟩ (.slice none 0 0)).setRow p #[.int .i64 D.size, .map (some hb), .slice none 0 0, .int .i64 s, .int .i64 l]) B p hb (.slice none 0 0) { D with W := [], steps := s, left := l } := by
  obtain ⟨es, clock, h1, h2⟩ := hd.held
  have hne := hd.ne.1
  refine ⟨setRow_heap _ p _ _ 27 _ (heap_setCell_same w p 2 _ 27 _ hd.box), ⟨es, clock, ?_, h2⟩, World.ownsRow_nil _ _ _ _, hd.good, fun x hx => (by cases hx), hd.low⟩
  rw [setRow_other _ p hb _ (Ne.symm hne), heap_setCell_other _ _ _ _ (Ne.symm hne)]; exact h1

set_option maxRecDepth 100000 in
set_option maxHeartbeats 2000000 in
theorem sync_ok (B p hb : Nat) (wv : Value) (D : dSt) (w : World) (hd : IsDisk w B p hb wv D) (hl : D.W.length ≤ 1000) (hsz : 0 < D.size) (hon : D.left ≠ 0)
    (hs0 : 0 ≤ D.steps) (hs1 : D.steps < 1000000) (hl0 : -1 ≤ D.left) (hl1 : D.left ≤ 9223372036854775807) :
    Calls Tryd.prog 51 #[.pointer (some ⟨p, 0, none⟩)] w (PSync w B p hb D) := by
  have hzv := zero76
  have d1 : decide (0 < D.size) = true := by simpa using hsz
  have d3 : (D.left == 0) = false := by simp [hon]
  have m1 := made_any p D.size w (cellOf hd.box 0)
  have m3 := off_any p D.left w (cellOf hd.box 4)
  rw [d1] at m1; rw [d3] at m3
  have M1 := hid m1
  have M3 := hid m3
  obtain ⟨ao, cap, rfl, hcap, _⟩ := hd.slice
  have c2 : w.cell? ⟨p, 2, none⟩ = some (.slice ao D.W.length cap) := cellOf hd.box 2
  have HD := hid hd
  clear m1 m3 d1 d3 hd
  go_enter Tryd.func51, Tryd.ntmps51
  go_wp2_with (first
    | (go_at_call 36; refine M1.out.mono ?_; rintro e _ ⟨rfl, hw⟩; rw [hw])
    | (go_at_call 37; refine M3.out.mono ?_; rintro e _ ⟨rfl, hw⟩; rw [hw]))
  go_loopw [17] (fun t wr => ∃ k : Nat, k ≤ D.W.length ∧ t = .int .i64 k ∧ IsDisk wr B p hb (.slice ao D.W.length cap) { D with H := syncH D.H (D.W.take k) } ∧ Touch (fun j => j = hb) w wr) (fun t _ => D.W.length - (intOf t).toNat)
  case atStart => exact ⟨0, Nat.zero_le _, rfl, HD.out, Touch.refl _ _⟩
  case round =>
    obtain ⟨k, hk, rfl, hdr, hTr⟩ := hrel
    by_cases hlt : k < D.W.length
    · have hHS := hid (syncH_snoc D.H D.W k hlt)
      obtain ⟨ao', cap', he, _, hrest⟩ := hdr.slice
      obtain ⟨g, rfl, hglt, _, _, hr⟩ := hrest (show 0 < D.W.length by omega)
      obtain ⟨rfl, rfl⟩ : ao = some ⟨g, 0, none⟩ ∧ cap = cap' := by simpa using he
      have hrk := hid (hr k hlt)
      have hgood := hid (hdr.goodW _ (List.getElem_mem hlt))
      simp only at hrk hgood
      generalize D.W[k] = x at hHS hrk hgood
      have hwl : (wcells x).length = 257 := length_wcells _ hgood.out
      have hi76 : Hid ((Tryd.prog.info? 75).map (·.size) = some (wcells x).length) := show _ = _ by rw [info76, hwl]
      have hi76a : Hid ((Tryd.prog.info? 75).map (·.size) = some (wcells x).toArray.size) := show _ = _ by rw [info76, List.size_toArray, hwl]
      have ho76 : Hid ((.int .i64 0 :: S zeros).toArray.size = (wcells x).toArray.size) := show _ = _ by rw [List.size_toArray, List.size_toArray, List.length_cons, length_S, length_zeros, hwl]
      have hset : (wr.alloc (.cells (.int .i64 0 :: S zeros).toArray 75)).setRow wr.heap.size (wcells x).toArray = wr.alloc (.cells (wcells x).toArray 75) := World.setRow_alloc_new _ _ _ _
      have hdr' := hid hdr
      clear hr hrest he hwl c2 hdr
      go_upto_region 7 with fail
      go_cut [4] (fun t4 w' => t4 = .pointer (some ⟨wr.heap.size, 0, none⟩) ∧ w' = wr.alloc (.cells (wcells x).toArray 75))
      case first =>
        go_wp2_with (first
          | (refine wpList_load_mid rfl 75 _ rfl g (k * 257) rfl (wcells x) _ hrk.out Tryd.underlying75 rfl hi76.out ?_)
          | (refine wpList_store_row rfl 75 _ _ rfl wr.heap.size (wcells x).toArray rfl rfl 75 (.int .i64 0 :: S zeros).toArray (heap_alloc_new wr _) hi76a.out ho76.out (all_oneCell_toArray (one_wcells _)) ?_))
        go_meet
        case rel => exact ⟨rfl, rfl⟩
      case rest =>
        rename World => w5
        obtain ⟨rfl, hw5⟩ := hcut
        have hA5 : Adds wr w5 := by rw [hw5]; exact (Touch.refl _ wr).alloc _
        have hg5 : w5.heap[wr.heap.size]? = some (.cells (wcells x).toArray 75 (0, 0)) := by rw [hw5]; exact heap_alloc_new wr _
        have x0 : w5.cell? ⟨wr.heap.size, 0, none⟩ = some (.int .i64 x.1) := cellOf hg5 0
        have xr := hid (show w5.rangeAt wr.heap.size 1 (S x.2) from fun j v hv => (by rw [cellOf hg5]; simpa [wcells, Nat.add_comm 1 j] using hv))
        have hi74 : Hid ((Tryd.prog.info? 73).map (·.size) = some (S x.2).length) := show _ = _ by rw [info74, length_S, hgood.out]
        have HD5 := hid (hdr'.out.adds hA5)
        clear hset hw5 hg5 hi76 hi76a ho76 hrk hzv
        go_wp2_with (first
          | (refine wpList_load_mid rfl 73 _ rfl wr.heap.size 1 rfl (S x.2) _ xr.out Tryd.underlying73 rfl hi74.out ?_)
          | (go_at_call 39; refine (hold_any _ p hb _ _ x.1 x.2 _ HD5.out hgood.out).mono ?_; rintro e w8 ⟨rfl, hd8, hT8⟩))
        go_roundw
        case rel =>
          refine ⟨k + 1, by omega, by go_num, by rw [hHS.out]; exact hd8, ?_⟩
          exact (hTr.then hA5 (fun _ _ => False.elim)).trans hT8
        case measure => simp [intOf]; omega
    · obtain rfl : k = D.W.length := by omega
      have f2 : wr.frozen? ⟨p, 2, none⟩ = false := frozen_of_row wr p 2 _ 27 hdr.box
      have c2r : wr.cell? ⟨p, 2, none⟩ = some (.slice ao D.W.length cap) := cellOf hdr.box 2
      have hbox2 := hid (heap_setCell_same wr p 2 _ 27 (.slice none 0 0) hdr.box)
      have HDR := hid hdr
      clear hdr c2
      go_wp2_with (go_at_call 74; refine (step_any p _ _ _ D.steps D.left _ hbox2.out hs0 hs1 hl0 hl1).mono ?_; rintro e w4 ⟨rfl, hw4⟩)
      go_ret
      have hm := sync_mem HDR.out (D.steps + 1) (less D.left)
      subst hw4
      refine ⟨rfl, ?_, ?_⟩
      · rw [List.take_length] at hm; exact hm
      · have hT : Touch (fun j => j = p ∨ j = hb) w wr := hTr.mono (fun j _ e => .inr e)
        exact (hT.setCell (fun _ => .inl rfl) _).setRow (fun _ => .inl rfl) _

/-- What a write, or a sync, turns of a disk whose blocks are new, is new. -/
theorem adds_write {w w2 w3 : World} {p hb : Nat} {wv : Value} {D : dSt} (hA : Adds w w2) (hd : IsDisk w2 w.heap.size p hb wv D) (hT : Touch (fun k => k = p ∨ wv.ownBlock = some k) w2 w3) : Adds w w3 :=
  hA.then hT (fun j hj c => by
    rcases c with rfl | c
    · have := hd.low.1; omega
    · have := (hd.wait.lt j c).1; omega)
theorem adds_sync {w w2 w3 : World} {p hb : Nat} {wv : Value} {D : dSt} (hA : Adds w w2) (hd : IsDisk w2 w.heap.size p hb wv D) (hT : Touch (fun k => k = p ∨ k = hb) w2 w3) : Adds w w3 :=
  hA.then hT (fun j hj c => by
    rcases c with rfl | rfl
    · have := hd.low.1; omega
    · have := hd.low.2; omega)

end Go.Proofs.YtlgbgedkedddaaaDoor
