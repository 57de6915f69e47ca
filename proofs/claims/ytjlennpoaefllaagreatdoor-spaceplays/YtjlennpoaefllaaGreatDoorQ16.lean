/- Texts put together: DLose, DWorks, DSync, DCut, DUn, DOwn, FMath. -/
import Derived.Test.YtjlennpoaefllaaGreatDoorQ15
import Derived.Deep.DeepCutAuto
import Derived.Deep.LoopGhost
import Derived.Deep.Light
import Derived.Deep.QuietTactic
import Derived.BigQuiet
import Derived.Test.YtjlennpoaefllaaGreatDoorQ11
import Derived.Test.YtjlennpoaefllaaGreatDoorQ12
/- Lose. -/
namespace Go.Proofs.YtjlennpoaefllaaGreatDoor
open Go.RowKit

/-- Where the kept marks lie. -/
def KeptAt (w : World) (ka : Option Addr) (ks : List Bool) : Prop := ∀ j (h : j < ks.length), ∃ b o, ka = some ⟨b, o, none⟩ ∧ w.cell? ⟨b, o + j, none⟩ = some (.bool ks[j])

set_option maxRecDepth 100000 in
theorem IsDisk.mono {w : World} {B C p hb : Nat} {wv : Value} {D : dSt} (h : IsDisk w C p hb wv D) (hB : B ≤ C) : IsDisk w B p hb wv D := by
  refine ⟨h.box, h.held, ⟨h.wait.1, ?_⟩, h.good, h.goodW, by have := h.low.1; omega, by have := h.low.2; omega⟩
  rcases h.wait.2 with hn | ⟨g, cap, cur, e, hb', rest⟩
  · exact .inl hn
  · exact .inr ⟨g, cap, cur, e, by omega, rest⟩

end Go.Proofs.YtjlennpoaefllaaGreatDoor

/- works: the chapter's example. -/
namespace Go.Proofs.YtjlennpoaefllaaGreatDoor
open Go.RowKit

/-- What Read tells, in the caller's words. -/
def PReads (w : World) (bs : List UInt8) (e : Ending) (w' : World) : Prop := ∃ g cap, e = .returned (.tuple #[.slice (some ⟨g, 0, none⟩) 256 cap, .int .i64 0]) ∧ (∀ j b, bs[j]? = some b → w'.cell? ⟨g, j, none⟩ = some (.int .u8 (b.toNat : Int))) ∧ w.heap.size ≤ g ∧ g < w'.heap.size ∧ Adds w w'
set_option maxRecDepth 100000 in
theorem dPRead.reads {w : World} {bs : List UInt8} {e : Ending} {w' : World} (h : dPRead w bs e w') : PReads w bs e w' := by
  obtain ⟨v, rfl, hown, hv, hA⟩ := h
  rcases hown.2 with ⟨c, _⟩ | ⟨g, cap, cur, rfl, hg, hh, _⟩
  · exact absurd c hv
  · refine ⟨g, cap, rfl, fun j b hb => ?_, hg, (Array.getElem?_eq_some_iff.1 hh).1, hA⟩
    have hl : (S bs).length = 256 := hown.1
    have hj : j < bs.length := (List.getElem?_eq_some_iff.1 hb).1
    rw [length_S] at hl
    rw [hown.cellAt j (by omega), S_get, hb]; rfl

end Go.Proofs.YtjlennpoaefllaaGreatDoor

/- Sync. -/
namespace Go.Proofs.YtjlennpoaefllaaGreatDoor
open Go.RowKit

/-- What is held behind a sync of W. -/
def syncH (H : Int → List UInt8) (W : List (Int × List UInt8)) : Int → List UInt8 := W.foldl (fun H x => upd H x.1 x.2) H
set_option maxRecDepth 100000 in
theorem syncH_snoc (H : Int → List UInt8) (W : List (Int × List UInt8)) (k : Nat) (h : k < W.length) : syncH H (W.take (k + 1)) = upd (syncH H (W.take k)) W[k].1 W[k].2 := by
  unfold syncH
  rw [List.take_succ_eq_append_getElem h, List.foldl_append]; rfl

/-- The state behind a sync. -/
def dSt.synced (D : dSt) : dSt := { D with H := syncH D.H D.W, W := [], steps := D.steps + 1, left := less D.left }
/-- What Sync leaves. -/
def PSync (w : World) (B p hb : Nat) (D : dSt) (e : Ending) (w' : World) : Prop := e = .returned (.int .i64 0) ∧ IsDisk w' B p hb (.slice none 0 0) D.synced ∧ Touch (fun k => k = p ∨ k = hb) w w'

set_option maxRecDepth 100000 in
set_option maxHeartbeats 400000 in
theorem sync_off (p : Nat) (n : Int) (w : World) (c0 : w.cell? ⟨p, 0, none⟩ = some (.int .i64 n)) (c4 : w.cell? ⟨p, 4, none⟩ = some (.int .i64 0)) (hn : 0 < n) :
    Calls Tryz.prog 124 #[.pointer (some ⟨p, 0, none⟩)] w fun e w' => e = .returned (.int .i64 10) ∧ w' = w := by
  have d1 : decide (0 < n) = true := by simpa using hn
  have m1 := made_any p n w c0
  have m3 := off_any p 0 w c4
  rw [d1] at m1
  have M1 := hid m1
  have M3 := hid m3
  clear m1 m3 d1 hn c0 c4
  go_enter Tryz.func124, Tryz.ntmps124
  go_wp2_with (first
    | (go_at_call 76; refine M1.out.mono ?_; rintro e w' ⟨rfl, rfl⟩)
    | (go_at_call 87; refine M3.out.mono ?_; rintro e w' ⟨rfl, rfl⟩))
  go_ret
  exact ⟨rfl, rfl⟩

set_option maxRecDepth 100000 in
/-- The memory's side of a sync's end: the slice is nil, one step more. -/
theorem sync_mem {w : World} {B p hb : Nat} {wv : Value} {D : dSt} (hd : IsDisk w B p hb wv D) (s l : Int) :
    IsDisk ((w.setCell ⟨p, 2, none⟩ (.slice none 0 0)).setRow p #[.int .i64 D.size, .map (some hb), .slice none 0 0, .int .i64 s, .int .i64 l]) B p hb (.slice none 0 0) { D with W := [], steps := s, left := l } := by
  obtain ⟨es, clock, h1, h2⟩ := hd.held
  have hne := hd.ne.1
  refine ⟨setRow_heap _ p _ _ 81 _ (heap_setCell_same w p 2 _ 81 _ hd.box), ⟨es, clock, ?_, h2⟩, World.ownsRow_nil _ _ _ _, hd.good, fun x hx => (by cases hx), hd.low⟩
  rw [setRow_other _ p hb _ (Ne.symm hne), heap_setCell_other _ _ _ _ (Ne.symm hne)]; exact h1

set_option maxRecDepth 100000 in
set_option maxHeartbeats 2000000 in
theorem sync_ok (B p hb : Nat) (wv : Value) (D : dSt) (w : World) (hd : IsDisk w B p hb wv D) (hl : D.W.length ≤ 1000) (hsz : 0 < D.size) (hon : D.left ≠ 0)
    (hs0 : 0 ≤ D.steps) (hs1 : D.steps < 1000000) (hl0 : -1 ≤ D.left) (hl1 : D.left ≤ 9223372036854775807) :
    Calls Tryz.prog 124 #[.pointer (some ⟨p, 0, none⟩)] w (PSync w B p hb D) := by
  have hzv := zero76
  have d1 : decide (0 < D.size) = true := by simpa using hsz
  have d3 : (D.left == 0) = false := by simp [hon]
  have m1 := made_any p D.size w (cellOf hd.box 0)
  have m3 := off_any p D.left w (cellOf hd.box 4)
  rw [d1] at m1; rw [d3] at m3
  have M1 := hid m1
  have M3 := hid m3
  obtain ⟨ao, cap, rfl, hcap, _⟩ := hd.slice
  have c2 : w.cell? ⟨p, 2, none⟩ = some (.slice ao D.W.length cap) := cellOf hd.box 2
  have HD := hid hd
  clear m1 m3 d1 d3 hd
  go_enter Tryz.func124, Tryz.ntmps124
  go_wp2_with (first
    | (go_at_call 76; refine M1.out.mono ?_; rintro e _ ⟨rfl, hw⟩; rw [hw])
    | (go_at_call 87; refine M3.out.mono ?_; rintro e _ ⟨rfl, hw⟩; rw [hw]))
  go_loopw [17] (fun t wr => ∃ k : Nat, k ≤ D.W.length ∧ t = .int .i64 k ∧ IsDisk wr B p hb (.slice ao D.W.length cap) { D with H := syncH D.H (D.W.take k) } ∧ Touch (fun j => j = hb) w wr) (fun t _ => D.W.length - (intOf t).toNat)
  case atStart => exact ⟨0, Nat.zero_le _, rfl, HD.out, Touch.refl _ _⟩
  case round =>
    obtain ⟨k, hk, rfl, hdr, hTr⟩ := hrel
    by_cases hlt : k < D.W.length
    · have hHS := hid (syncH_snoc D.H D.W k hlt)
      obtain ⟨ao', cap', he, _, hrest⟩ := hdr.slice
      obtain ⟨g, rfl, hglt, _, _, hr⟩ := hrest (show 0 < D.W.length by omega)
      obtain ⟨rfl, rfl⟩ : ao = some ⟨g, 0, none⟩ ∧ cap = cap' := by simpa using he
      have hrk := hid (hr k hlt)
      have hgood := hid (hdr.goodW _ (List.getElem_mem hlt))
      simp only at hrk hgood
      generalize D.W[k] = x at hHS hrk hgood
      have hwl : (wcells x).length = 257 := length_wcells _ hgood.out
      have hi76 : Hid ((Tryz.prog.info? 188).map (·.size) = some (wcells x).length) := show _ = _ by rw [info76, hwl]
      have hi76a : Hid ((Tryz.prog.info? 188).map (·.size) = some (wcells x).toArray.size) := show _ = _ by rw [info76, List.size_toArray, hwl]
      have ho76 : Hid ((.int .i64 0 :: S zeros).toArray.size = (wcells x).toArray.size) := show _ = _ by rw [List.size_toArray, List.size_toArray, List.length_cons, length_S, length_zeros, hwl]
      have hset : (wr.alloc (.cells (.int .i64 0 :: S zeros).toArray 188)).setRow wr.heap.size (wcells x).toArray = wr.alloc (.cells (wcells x).toArray 188) := World.setRow_alloc_new _ _ _ _
      have hdr' := hid hdr
      clear hr hrest he hwl c2 hdr
      go_upto_region 7 with fail
      go_cut [4] (fun t4 w' => t4 = .pointer (some ⟨wr.heap.size, 0, none⟩) ∧ w' = wr.alloc (.cells (wcells x).toArray 188))
      case first =>
        go_wp2_with (first
          | (refine wpList_load_mid rfl 188 _ rfl g (k * 257) rfl (wcells x) _ hrk.out Tryz.underlying188 rfl hi76.out ?_)
          | (refine wpList_store_row rfl 188 _ _ rfl wr.heap.size (wcells x).toArray rfl rfl 188 (.int .i64 0 :: S zeros).toArray (heap_alloc_new wr _) hi76a.out ho76.out (all_oneCell_toArray (one_wcells _)) ?_))
        go_meet
        case rel => exact ⟨rfl, rfl⟩
      case rest =>
        rename World => w5
        obtain ⟨rfl, hw5⟩ := hcut
        have hA5 : Adds wr w5 := by rw [hw5]; exact (Touch.refl _ wr).alloc _
        have hg5 : w5.heap[wr.heap.size]? = some (.cells (wcells x).toArray 188 (0, 0)) := by rw [hw5]; exact heap_alloc_new wr _
        have x0 : w5.cell? ⟨wr.heap.size, 0, none⟩ = some (.int .i64 x.1) := cellOf hg5 0
        have xr := hid (show w5.rangeAt wr.heap.size 1 (S x.2) from fun j v hv => (by rw [cellOf hg5]; simpa [wcells, Nat.add_comm 1 j] using hv))
        have hi74 : Hid ((Tryz.prog.info? 186).map (·.size) = some (S x.2).length) := show _ = _ by rw [info74, length_S, hgood.out]
        have HD5 := hid (hdr'.out.adds hA5)
        clear hset hw5 hg5 hi76 hi76a ho76 hrk hzv
        go_wp2_with (first
          | (refine wpList_load_mid rfl 186 _ rfl wr.heap.size 1 rfl (S x.2) _ xr.out Tryz.underlying186 rfl hi74.out ?_)
          | (go_at_call 145; refine (hold_any _ p hb _ _ x.1 x.2 _ HD5.out hgood.out).mono ?_; rintro e w8 ⟨rfl, hd8, hT8⟩))
        go_roundw
        case rel =>
          refine ⟨k + 1, by omega, by go_num, by rw [hHS.out]; exact hd8, ?_⟩
          exact (hTr.then hA5 (fun _ _ => False.elim)).trans hT8
        case measure => simp [intOf]; omega
    · obtain rfl : k = D.W.length := by omega
      have f2 : wr.frozen? ⟨p, 2, none⟩ = false := frozen_of_row wr p 2 _ 81 hdr.box
      have c2r : wr.cell? ⟨p, 2, none⟩ = some (.slice ao D.W.length cap) := cellOf hdr.box 2
      have hbox2 := hid (heap_setCell_same wr p 2 _ 81 (.slice none 0 0) hdr.box)
      have HDR := hid hdr
      clear hdr c2
      go_wp2_with (go_at_call 144; refine (step_any p _ _ _ D.steps D.left _ hbox2.out hs0 hs1 hl0 hl1).mono ?_; rintro e w4 ⟨rfl, hw4⟩)
      go_ret
      have hm := sync_mem HDR.out (D.steps + 1) (less D.left)
      subst hw4
      refine ⟨rfl, ?_, ?_⟩
      · rw [List.take_length] at hm; exact hm
      · have hT : Touch (fun j => j = p ∨ j = hb) w wr := hTr.mono (fun j _ e => .inr e)
        exact (hT.setCell (fun _ => .inl rfl) _).setRow (fun _ => .inl rfl) _

end Go.Proofs.YtjlennpoaefllaaGreatDoor

/- Cut, Steps, Size; Write where the power is off, or where it is refused. -/
namespace Go.Proofs.YtjlennpoaefllaaGreatDoor
open Go.RowKit

/-- The state behind a cut. -/
def dSt.cut (D : dSt) (n : Int) : dSt := { D with left := if D.left = 0 then 0 else n }
/-- What Cut leaves. -/
def dPCut (w : World) (B p hb : Nat) (wv : Value) (D : dSt) (n : Int) (e : Ending) (w' : World) : Prop := e = .returned (.int .i64 0) ∧ IsDisk w' B p hb wv (D.cut n) ∧ Touch (fun k => k = p) w w'

set_option maxRecDepth 100000 in
/-- A disk whose struct has turned in its last cell. -/
theorem IsDisk.setLeft {w : World} {B p hb : Nat} {wv : Value} {D : dSt} (hd : IsDisk w B p hb wv D) (n : Int) : IsDisk (w.setCell ⟨p, 4, none⟩ (.int .i64 n)) B p hb wv { D with left := n } := by
  obtain ⟨es, clock, h1, h2⟩ := hd.held
  have hne := hd.ne
  refine ⟨heap_setCell_same w p 4 _ 81 _ hd.box, ⟨es, clock, ?_, h2⟩, ?_, hd.good, hd.goodW, hd.low⟩
  · rw [heap_setCell_other _ _ _ _ (Ne.symm hne.1)]; exact h1
  · refine hd.wait.kept (row := some p) ⟨rfl, rfl, rfl, by simp, fun k _ hk => heap_setCell_other w _ k _ (fun e => hk (by rw [e]))⟩ ?_
    cases hv : wv.ownBlock with
    | none => exact .inl rfl
    | some k => exact .inr (fun e => (hne.2 k hv).2 (by simpa using e))

set_option maxRecDepth 100000 in
set_option maxHeartbeats 400000 in
theorem cut_bad (p : Nat) (s n : Int) (w : World) (c0 : w.cell? ⟨p, 0, none⟩ = some (.int .i64 s)) (hs : 0 < s) (hn : n < 0) :
    Calls Tryz.prog 50 #[.pointer (some ⟨p, 0, none⟩), .int .i64 n] w fun e w' => e = .returned (.int .i64 2) ∧ w' = w := by
  have d1 : decide (0 < s) = true := by simpa using hs
  have m1 := made_any p s w c0
  rw [d1] at m1
  have M1 := hid m1
  clear m1 d1 hs c0
  go_enter Tryz.func50, Tryz.ntmps50
  go_wp2_with (go_at_call 76; refine M1.out.mono ?_; rintro e w' ⟨rfl, rfl⟩)
  go_ret
  exact ⟨rfl, rfl⟩

set_option maxRecDepth 100000 in
set_option maxHeartbeats 400000 in
theorem cut_ok (B p hb : Nat) (wv : Value) (D : dSt) (n : Int) (w : World) (hd : IsDisk w B p hb wv D) (hsz : 0 < D.size) (hn : 0 ≤ n) :
    Calls Tryz.prog 50 #[.pointer (some ⟨p, 0, none⟩), .int .i64 n] w (dPCut w B p hb wv D n) := by
  have d1 : decide (0 < D.size) = true := by simpa using hsz
  have m1 := made_any p D.size w (cellOf hd.box 0)
  have m3 := off_any p D.left w (cellOf hd.box 4)
  rw [d1] at m1
  have hn' : ¬ n < 0 := by omega
  have c4 : w.cell? ⟨p, 4, none⟩ = some (.int .i64 D.left) := cellOf hd.box 4
  have f4 : w.frozen? ⟨p, 4, none⟩ = false := frozen_of_row w p 4 _ 81 hd.box
  by_cases h : D.left = 0
  · have d3 : (D.left == 0) = true := by simp [h]
    rw [d3] at m3
    have M1 := hid m1
    have M3 := hid m3
    have HD := hid hd
    have HH := hid h
    clear m1 m3 d1 d3 hd h
    go_enter Tryz.func50, Tryz.ntmps50
    go_wp2_with (first
      | (go_at_call 76; refine M1.out.mono ?_; rintro e _ ⟨rfl, hw⟩; rw [hw])
      | (go_at_call 87; refine M3.out.mono ?_; rintro e _ ⟨rfl, hw⟩; rw [hw]))
    go_ret
    refine ⟨rfl, ?_, Touch.refl _ _⟩
    have : D.cut n = D := by cases D; simp only [dSt.cut]; simp only at HH; rw [if_pos HH.out]; rw [HH.out]
    rw [this]; exact HD.out
  · have d3 : (D.left == 0) = false := by simp [h]
    rw [d3] at m3
    have M1 := hid m1
    have M3 := hid m3
    have HD := hid hd
    have HH := hid h
    clear m1 m3 d1 d3 hd h
    go_enter Tryz.func50, Tryz.ntmps50
    go_wp2_with (first
      | (go_at_call 76; refine M1.out.mono ?_; rintro e _ ⟨rfl, hw⟩; rw [hw])
      | (go_at_call 87; refine M3.out.mono ?_; rintro e _ ⟨rfl, hw⟩; rw [hw]))
    go_ret
    refine ⟨rfl, ?_, Touch.setCell (T := fun k => k = p) (Touch.refl _ _) (fun _ => rfl) _⟩
    have : D.cut n = { D with left := n } := by simp only [dSt.cut]; rw [if_neg HH.out]
    rw [this]; exact HD.out.setLeft n

set_option maxRecDepth 100000 in
set_option maxHeartbeats 400000 in
theorem size_any (p : Nat) (n : Int) (w : World) (c0 : w.cell? ⟨p, 0, none⟩ = some (.int .i64 n)) (hn : 0 < n) :
    Calls Tryz.prog 34 #[.pointer (some ⟨p, 0, none⟩)] w fun e w' => e = .returned (.int .i64 n) ∧ w' = w := by
  have d1 : decide (0 < n) = true := by simpa using hn
  have m1 := made_any p n w c0
  rw [d1] at m1
  have M1 := hid m1
  clear m1 d1 hn
  go_enter Tryz.func34, Tryz.ntmps34
  go_wp2_with (go_at_call 76; refine M1.out.mono ?_; rintro e _ ⟨rfl, hw⟩; rw [hw])
  go_ret
  exact ⟨rfl, rfl⟩

set_option maxRecDepth 100000 in
set_option maxHeartbeats 400000 in
theorem write_off (p : Nat) (n i : Int) (ga : Option Addr) (c : Nat) (w : World) (c0 : w.cell? ⟨p, 0, none⟩ = some (.int .i64 n)) (c4 : w.cell? ⟨p, 4, none⟩ = some (.int .i64 0)) (hn : 0 < n) (hi : 0 ≤ i ∧ i < n) :
    Calls Tryz.prog 123 #[.pointer (some ⟨p, 0, none⟩), .int .i64 i, .slice ga 256 c] w fun e w' => e = .returned (.int .i64 10) ∧ w' = w := by
  have d1 : decide (0 < n) = true := by simpa using hn
  have d2 : (decide (0 ≤ i) && decide (i < n)) = true := by simp [hi.1, hi.2]
  have m1 := made_any p n w c0
  have m2 := hasSector_any p n i w c0
  have m3 := off_any p 0 w c4
  rw [d1] at m1; rw [d2] at m2
  have M1 := hid m1
  have M2 := hid m2
  have M3 := hid m3
  clear m1 m2 m3 d1 d2 hi hn c0 c4
  go_enter Tryz.func123, Tryz.ntmps123
  go_wp2_with (first
    | (go_at_call 76; refine M1.out.mono ?_; rintro e w' ⟨rfl, rfl⟩)
    | (go_at_call 143; refine M2.out.mono ?_; rintro e w' ⟨rfl, rfl⟩)
    | (go_at_call 87; refine M3.out.mono ?_; rintro e w' ⟨rfl, rfl⟩))
  go_ret
  exact ⟨rfl, rfl⟩

end Go.Proofs.YtjlennpoaefllaaGreatDoor

/- Disks that are nil, or that no call made: Sync, Cut, Spoil, Size, Steps, Pending. -/
namespace Go.Proofs.YtjlennpoaefllaaGreatDoor
open Go.RowKit

end Go.Proofs.YtjlennpoaefllaaGreatDoor

/- A disk whose blocks have an owner: reads, writes, syncs by its state. -/
namespace Go.Proofs.YtjlennpoaefllaaGreatDoor
open Go.RowKit

/-- A disk, all of whose blocks are of O. -/
def IsDO (w : World) (O : Nat → Prop) (p : Nat) (D : dSt) : Prop := ∃ hb wv, IsDisk w 0 p hb wv D ∧ O p ∧ O hb ∧ ∀ k, wv.ownBlock = some k → O k
theorem IsDO.touch {w w' : World} {O T : Nat → Prop} {p : Nat} {D : dSt} (h : IsDO w O p D) (hT : Touch T w w') (hn : ∀ k, O k → ¬ T k) : IsDO w' O p D := by
  obtain ⟨hb, wv, hd, h1, h2, h3⟩ := h
  exact ⟨hb, wv, hd.kept hT (hn _ h1) (hn _ h2) (fun k hk => hn k (h3 k hk)), h1, h2, h3⟩
theorem IsDO.adds {w w' : World} {O : Nat → Prop} {p : Nat} {D : dSt} (h : IsDO w O p D) (hT : Adds w w') : IsDO w' O p D := h.touch hT (fun _ _ => id)
theorem IsDO.mono {w : World} {O O' : Nat → Prop} {p : Nat} {D : dSt} (h : IsDO w O p D) (hn : ∀ k, O k → O' k) : IsDO w O' p D := by
  obtain ⟨hb, wv, hd, h1, h2, h3⟩ := h
  exact ⟨hb, wv, hd, hn _ h1, hn _ h2, fun k hk => hn k (h3 k hk)⟩
/-- A disk's numbers are within bounds. -/
structure DOk (D : dSt) (k : Nat) : Prop where
  waits : D.W.length ≤ k
  steps0 : 0 ≤ D.steps
  steps1 : D.steps ≤ k
  left0 : -1 ≤ D.left
  left1 : D.left ≤ 9223372036854775807
  size : 0 < D.size
theorem DOk.wrote {D : dSt} {k : Nat} (h : DOk D k) (i : Int) (bs : List UInt8) : DOk (D.wrote i bs) (k + 1) := by
  have h0 := h.left0
  have h1 := h.left1
  refine ⟨?_, ?_, ?_, ?_, ?_, h.size⟩
  · show (D.W ++ [(i, bs)]).length ≤ k + 1
    have := h.waits
    rw [List.length_append]; simp; omega
  · show 0 ≤ D.steps + 1
    have := h.steps0; omega
  · show D.steps + 1 ≤ _
    have := h.steps1; omega
  · show -1 ≤ less D.left
    unfold less; split <;> omega
  · show less D.left ≤ _
    unfold less; split <;> omega
theorem DOk.synced {D : dSt} {k : Nat} (h : DOk D k) : DOk D.synced (k + 1) := by
  have h0 := h.left0
  have h1 := h.left1
  refine ⟨Nat.zero_le _, ?_, ?_, ?_, ?_, h.size⟩
  · show 0 ≤ D.steps + 1
    have := h.steps0; omega
  · show D.steps + 1 ≤ _
    have := h.steps1; omega
  · show -1 ≤ less D.left
    unfold less; split <;> omega
  · show less D.left ≤ _
    unfold less; split <;> omega
theorem DOk.mono {D : dSt} {k j : Nat} (h : DOk D k) (hj : k ≤ j) : DOk D j := ⟨Nat.le_trans h.waits hj, h.steps0, by have := h.steps1; omega, h.left0, h.left1, h.size⟩
/-- r writes, from number i on, and a sync: the answer, and the disk behind it. -/
def goW (f : Nat → Int × List UInt8) : Nat → Nat → dSt → Int × dSt
  | 0, _, D => if D.left = 0 then (10, D) else (0, D.synced)
  | r + 1, i, D => if D.left = 0 then (10, D) else goW f r (i + 1) (D.wrote (f i).1 (f i).2)
theorem goW_ok {f : Nat → Int × List UInt8} : ∀ {r i : Nat} {D : dSt} {k : Nat}, DOk D k → DOk (goW f r i D).2 (k + r + 1)
  | 0, i, D, k, h => by
    unfold goW
    split
    · exact h.mono (by omega)
    · exact h.synced
  | r + 1, i, D, k, h => by
    unfold goW
    split
    · exact h.mono (by omega)
    · exact (goW_ok (r := r) (i := i + 1) (h.wrote _ _)).mono (by omega)
theorem own_type {w : World} {B : Nat} {e : TypeId} {size : Nat} {v : Value} {n : Nat} {xs : List Value} (h : w.ownsRow B e size v n xs) {k : Nat} (hk : v.ownBlock = some k) : ∃ cur, w.heap[k]? = some (.cells cur e (0, 0)) := by
  rcases h.2 with ⟨rfl, _⟩ | ⟨g, cap, cur, rfl, hb', hgg, rest⟩
  · cases hk
  · obtain rfl : g = k := by simpa [Value.ownBlock] using hk
    exact ⟨cur, hgg⟩
/-- What a call of a disk leaves. -/
def PDo (w : World) (O : Nat → Prop) (p : Nat) (z : Int) (D : dSt) (e : Ending) (w' : World) : Prop := e = .returned (.int .i64 z) ∧ Hid (∃ O', IsDO w' O' p D ∧ Touch O w w' ∧ ∀ k, O' k → O k ∨ (w.heap.size ≤ k ∧ k < w'.heap.size))
theorem rangeOf {w : World} {g o : Nat} {bs : List UInt8} (h : At w (some ⟨g, o, none⟩) bs) : w.rangeAt g o (S bs) := by
  intro j v hv
  rw [S_get] at hv
  obtain ⟨c, hc, rfl⟩ := Option.map_eq_some_iff.1 hv
  obtain ⟨b, o', e, h1⟩ := h j c hc
  obtain ⟨rfl, rfl⟩ : g = b ∧ o = o' := by simpa using e
  exact h1
/-- Write, by the disk's state. -/
theorem dput_any {w : World} {O : Nat → Prop} {p : Nat} {D : dSt} {n : Nat} (h : IsDO w O p D) (hk : DOk D n) (hn : n ≤ 900) (i : Int) (hi : 0 ≤ i ∧ i < D.size) (g c : Nat) (bs : List UInt8) (hl : bs.length = 256) (hs : At w (some ⟨g, 0, none⟩) bs) :
    Calls Tryz.prog 123 #[Ptr p, .int .i64 i, .slice (some ⟨g, 0, none⟩) 256 c] w (PDo w O p (if D.left = 0 then 10 else 0) (if D.left = 0 then D else D.wrote i bs)) := by
  have hD := h
  obtain ⟨hb, wv, hd, h1, h2, h3⟩ := h
  by_cases hon : D.left = 0
  · rw [if_pos hon, if_pos hon]
    refine (write_off p D.size i _ c w (cellOf hd.box 0) (by rw [cellOf hd.box 4, hon]; rfl) hk.size hi).mono ?_
    rintro e w' ⟨rfl, hw⟩
    rw [hw]
    exact ⟨rfl, O, hD, Touch.refl _ _, fun _ c => .inl c⟩
  · rw [if_neg hon, if_neg hon]
    have := hk.waits
    have := hk.steps1
    refine (write_ok 0 p hb wv D i g 0 c bs w hd (by omega) hi hon hl (rangeOf hs) hk.steps0 (by omega) hk.left0 hk.left1).mono ?_
    rintro e w' ⟨wv', rfl, hd', hT, hat⟩
    refine ⟨rfl, fun k => O k ∨ (wv'.ownBlock = some k), ⟨hb, wv', hd', .inl h1, .inl h2, fun k hk => .inr hk⟩, hT.mono (fun k _ c => by rcases c with rfl | c; exact h1; exact h3 k c), ?_⟩
    intro k hk'
    rcases hk' with c | c
    · exact .inl c
    · rcases hat k c with c' | c'
      · exact .inl (h3 k c')
      · refine .inr ⟨c', ?_⟩
        obtain ⟨_, hc⟩ := own_type hd'.wait c
        exact (Array.getElem?_eq_some_iff.1 hc).1
theorem dsync_do {w : World} {O : Nat → Prop} {p : Nat} {D : dSt} {n : Nat} (h : IsDO w O p D) (hk : DOk D n) (hn : n ≤ 900) : Calls Tryz.prog 124 #[Ptr p] w (PDo w O p (if D.left = 0 then 10 else 0) (if D.left = 0 then D else D.synced)) := by
  have hD := h
  obtain ⟨hb, wv, hd, h1, h2, h3⟩ := h
  by_cases hon : D.left = 0
  · rw [if_pos hon, if_pos hon]
    refine (sync_off p D.size w (cellOf hd.box 0) (by rw [cellOf hd.box 4, hon]; rfl) hk.size).mono ?_
    rintro e w' ⟨rfl, hw⟩
    rw [hw]
    exact ⟨rfl, O, hD, Touch.refl _ _, fun _ c => .inl c⟩
  · rw [if_neg hon, if_neg hon]
    have := hk.waits
    have := hk.steps1
    refine (sync_ok 0 p hb wv D w hd (by omega) hk.size hon hk.steps0 (by omega) hk.left0 hk.left1).mono ?_
    rintro e w' ⟨rfl, hd', hT⟩
    exact ⟨rfl, O, ⟨hb, _, hd', h1, h2, fun k hk => by cases hk⟩, hT.mono (fun k _ c => by rcases c with rfl | rfl; exact h1; exact h2), fun _ c => .inl c⟩
/-- A sector of the disk, read. -/
def PSec (w : World) (bs : List UInt8) (e : Ending) (w' : World) : Prop := ∃ g cap, e = .returned (.tuple #[.slice (some ⟨g, 0, none⟩) 256 cap, .int .i64 0]) ∧ Hid (At w' (some ⟨g, 0, none⟩) bs ∧ bs.length = 256 ∧ 256 ≤ cap ∧ w.heap.size ≤ g ∧ Adds w w')
theorem dread_any {w : World} {O : Nat → Prop} {p : Nat} {D : dSt} {n : Nat} (h : IsDO w O p D) (hk : DOk D n) (hn : n ≤ 900) (hon : D.left ≠ 0) (i : Int) (hi : 0 ≤ i ∧ i < D.size) : Calls Tryz.prog 153 #[Ptr p, .int .i64 i] w (PSec w (hasOf D.H D.W i)) := by
  obtain ⟨hb, wv, hd, h1, h2, h3⟩ := h
  have := hk.waits
  refine (read_ok 0 p hb wv D i w hd (by omega) hi hon).mono ?_
  rintro e w' ⟨v, rfl, hr, hv, hA⟩
  obtain ⟨g, cap, rfl, hg, hc⟩ := Own.some hr (by omega)
  exact ⟨g, cap, rfl, At.own hr, hasOf_len i hd.good D.W hd.goodW, hc, hg, hA⟩
theorem dread_off {w : World} {O : Nat → Prop} {p : Nat} {D : dSt} {n : Nat} (h : IsDO w O p D) (hk : DOk D n) (hon : D.left = 0) (i : Int) (hi : 0 ≤ i ∧ i < D.size) : Calls Tryz.prog 153 #[Ptr p, .int .i64 i] w (Tells (.tuple #[.slice none 0 0, .int .i64 10]) w) := by
  obtain ⟨hb, wv, hd, h1, h2, h3⟩ := h
  exact read_off p D.size i w (cellOf hd.box 0) (by rw [cellOf hd.box 4, hon]; rfl) hk.size hi
theorem dsize_any {w : World} {O : Nat → Prop} {p : Nat} {D : dSt} {n : Nat} (h : IsDO w O p D) (hk : DOk D n) : Calls Tryz.prog 34 #[Ptr p] w (Tells (.int .i64 D.size) w) := by
  obtain ⟨hb, wv, hd, h1, h2, h3⟩ := h
  exact size_any p D.size w (cellOf hd.box 0) hk.size
end Go.Proofs.YtjlennpoaefllaaGreatDoor

/- A pool by definition: its frames in a list, by their age, the oldest first. -/
namespace Go.Proofs.YtjlennpoaefllaaGreatDoor.F
open Go.RowKit

/-- A frame: the page's number, what it holds, what it was as a dirty one, whether it is fresh, whether it is, or was, dirty. -/
structure Fr where
  no : Int
  now : List UInt8
  was : List UInt8
  fresh : Bool
  dirty : Bool
/-- Clean 0, dirty 1, fresh 2. -/
def st (f : Fr) : Int := if f.fresh then 2 else if f.dirty then 1 else 0
def clean (f : Fr) : Bool := !f.fresh && !f.dirty
/-- A pool's state: where its pages begin, how many there are, how many frames, the frames. -/
structure Po where
  fr : Int
  ct : Int
  mo : Int
  L : List Fr
def at? (L : List Fr) (no : Int) : Option Fr := L.find? fun f => decide (f.no = no)
def sansF (L : List Fr) (no : Int) : List Fr := L.filter fun f => decide (f.no ≠ no)
/-- The oldest clean frame. -/
def old (L : List Fr) : Option Fr := L.find? clean
/-- Has room to be made for a page? -/
def need (s : Po) (no : Int) : Bool := (at? s.L no).isNone && decide (s.mo ≤ (s.L.length : Int))
def room (s : Po) (no : Int) : Bool := !need s no || (old s.L).isSome
/-- The frames, when room has been made. -/
def out (s : Po) (no : Int) : List Fr := if need s no then (match old s.L with
  | some f => sansF s.L f.no
  | none => s.L) else s.L
/-- A page is held in a frame, the youngest. -/
def held (s : Po) (no : Int) (f : Fr) : Po := { s with L := sansF (out s no) no ++ [f] }
/-- The numbers of the pages of some frames, rising. -/
def which (s : Po) (m : Fr → Bool) : List Int := rise ((s.L.filter m).map (·.no))
def isFresh (f : Fr) : Bool := f.fresh
def isDirty (f : Fr) : Bool := f.dirty
def isHeld (_ : Fr) : Bool := true
def inPool (s : Po) (no : Int) : Bool := decide (0 ≤ no) && decide (no < s.ct)

/-- What was a dirty frame, of a page that is put: whether there was one, and its bytes. -/
def wasD (s : Po) (no : Int) : Bool := match at? s.L no with
  | some f => f.dirty
  | none => false
def wasB (s : Po) (no : Int) : List UInt8 := match at? s.L no with
  | some f => if f.fresh then f.was else if f.dirty then f.now else []
  | none => []
/-- Put: the answer, and the state behind it. -/
def putE (s : Po) (no : Int) (bs : List UInt8) : Nat := if inPool s no then (match M.readP bs with
  | none => 22
  | some p => if (p.no : Int) ≠ no then 23 else if room s no then 0 else 33) else 2
/-- The page that bytes are, with 0 in the last four. -/
def nw (bs : List UInt8) : List UInt8 := match M.readP bs with
  | some p => M.pbytes p
  | none => []
def putS (s : Po) (no : Int) (bs : List UInt8) : Po := if putE s no bs = 0 then held s no ⟨no, nw bs, wasB s no, true, wasD s no⟩ else s
/-- What a page is read as. -/
def rdE (s : Po) (D : dSt) (no : Int) : Nat := if room s no then (if D.left = 0 then 10 else M.openE (hasOf D.H D.W (s.fr + no)) no) else 33
def rdB (s : Po) (D : dSt) (no : Int) : List UInt8 := M.openP (hasOf D.H D.W (s.fr + no)) no
/-- Get: the answer, the bytes, the state behind it. -/
def getE (s : Po) (D : dSt) (no : Int) : Nat := if inPool s no then (if (at? s.L no).isSome then 0 else rdE s D no) else 2
def getF (s : Po) (D : dSt) (no : Int) : Fr := match at? s.L no with
  | some f => f
  | none => ⟨no, rdB s D no, [], false, false⟩
def getB (s : Po) (D : dSt) (no : Int) : List UInt8 := if getE s D no = 0 then (getF s D no).now else []
def getS (s : Po) (D : dSt) (no : Int) : Po := if getE s D no = 0 then held s no (getF s D no) else s
/-- Accept. -/
def acc (f : Fr) : Fr := if f.fresh then { f with was := [], fresh := false, dirty := true } else f
def accS (s : Po) : Po := { s with L := s.L.map acc }
/-- Drop. -/
def drp (f : Fr) : Fr := if f.fresh then { f with now := f.was, was := [], fresh := false } else f
def kept (f : Fr) : Bool := !f.fresh || f.dirty
def dropS (s : Po) : Po := { s with L := (s.L.filter kept).map drp }
/-- Flush: the answer, the disk, the state behind it. -/
def flD (s : Po) (no : Int) : List UInt8 := match at? s.L no with
  | some f => M.sealP f.now
  | none => []
end Go.Proofs.YtjlennpoaefllaaGreatDoor.F
