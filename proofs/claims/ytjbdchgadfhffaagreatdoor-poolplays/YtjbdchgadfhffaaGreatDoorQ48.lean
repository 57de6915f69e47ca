/- Spoil; Write where it is refused. -/
import Derived.Test.YtjbdchgadfhffaaGreatDoorQ16
namespace Go.Proofs.YtjbdchgadfhffaaGreatDoor
open Go.RowKit

/-- What Spoil leaves. -/
def PSpoil (w : World) (B p hb : Nat) (wv : Value) (D : dSt) (i : Int) (a : Nat) (b : UInt8) (e : Ending) (w' : World) : Prop :=
  e = .returned (.int .i64 0) ∧ IsDisk w' B p hb wv (D.spoiled i a b) ∧ Touch (fun k => k = hb ∨ wv.ownBlock = some k) w w'

set_option maxRecDepth 100000 in
/-- A store into the bytes of a waiting write. -/
theorem IsDisk.setWait {w : World} {B p hb g cap : Nat} {D : dSt} (hd : IsDisk w B p hb (.slice (some ⟨g, 0, none⟩) D.W.length cap) D) (k : Nat) (x : Int × List UInt8) (hx : D.W[k]? = some x) (a : Nat) (ha : a < 256) (b : UInt8) :
    IsDisk (w.setCell ⟨g, k * 257 + 1 + a, none⟩ (B8 b)) B p hb (.slice (some ⟨g, 0, none⟩) D.W.length cap) { D with W := D.W.set k (x.1, x.2.set a b) } := by
  have hne := hd.ne
  have hT : Touch (fun j => j = g) w (w.setCell ⟨g, k * 257 + 1 + a, none⟩ (B8 b)) := Touch.setCell (T := fun j => j = g) (Touch.refl _ w) (fun _ => rfl) _
  have h := (hd.wait.stored (k * 257 + 1 + a) (B8 b)).1
  rw [flat_set D.W hd.goodW k x a b ha hx] at h
  obtain ⟨es, clock, h1, h2⟩ := hd.held
  refine ⟨?_, ⟨es, clock, ?_, h2⟩, ?_, hd.good, ?_, hd.low⟩
  · rw [hT.block p (Array.getElem?_eq_some_iff.1 hd.box).1 (fun e => (hne.2 g rfl).2 e.symm)]; exact hd.box
  · rw [hT.block hb (Array.getElem?_eq_some_iff.1 h1).1 (fun e => (hne.2 g rfl).1 e.symm)]; exact h1
  · show World.ownsRow _ B 117 257 _ (D.W.set k (x.1, x.2.set a b)).length _
    rw [List.length_set]; exact h
  · intro y hy
    rcases List.mem_or_eq_of_mem_set hy with hy | rfl
    · exact hd.goodW y hy
    · show (x.2.set a b).length = 256
      rw [List.length_set]; exact hd.goodW x (List.mem_of_getElem? hx)

set_option maxRecDepth 100000 in
set_option maxHeartbeats 400000 in
theorem spoil_bad (p : Nat) (n i at_ bb : Int) (w : World) (c0 : w.cell? ⟨p, 0, none⟩ = some (.int .i64 n)) (hn : 0 < n) (hi : ¬ (0 ≤ i ∧ i < n ∧ 0 ≤ at_ ∧ at_ < 256)) :
    Calls Tryz.prog 33 #[.pointer (some ⟨p, 0, none⟩), .int .i64 i, .int .i64 at_, .int .u8 bb] w fun e w' => e = .returned (.int .i64 2) ∧ w' = w := by
  have d1 : decide (0 < n) = true := by simpa using hn
  have m1 := made_any p n w c0
  have m2 := hasSector_any p n i w c0
  rw [d1] at m1
  have M1 := hid m1
  clear m1 d1 c0
  by_cases h : 0 ≤ i ∧ i < n
  · have d2 : (decide (0 ≤ i) && decide (i < n)) = true := by simp [h.1, h.2]
    rw [d2] at m2
    have M2 := hid m2
    clear m2 d2
    by_cases h3 : at_ < 0
    · clear hi h
      go_enter Tryz.func33, Tryz.ntmps33
      go_wp2_with (first
        | (go_at_call 51; refine M1.out.mono ?_; rintro e w' ⟨rfl, rfl⟩)
        | (go_at_call 66; refine M2.out.mono ?_; rintro e w' ⟨rfl, rfl⟩))
      go_ret
      exact ⟨rfl, rfl⟩
    · have h4 : decide (256 ≤ at_) = true := by simp; omega
      clear hi h
      go_enter Tryz.func33, Tryz.ntmps33
      go_wp2_with (first
        | (go_at_call 51; refine M1.out.mono ?_; rintro e w' ⟨rfl, rfl⟩)
        | (go_at_call 66; refine M2.out.mono ?_; rintro e w' ⟨rfl, rfl⟩))
      go_ret
      exact ⟨rfl, rfl⟩
  · have d2 : (decide (0 ≤ i) && decide (i < n)) = false := by
      rw [Bool.and_eq_false_iff]
      by_cases h : 0 ≤ i
      · right; simp; omega
      · left; simpa using h
    rw [d2] at m2
    have M2 := hid m2
    clear m2 d2 hi h
    go_enter Tryz.func33, Tryz.ntmps33
    go_wp2_with (first
      | (go_at_call 51; refine M1.out.mono ?_; rintro e w' ⟨rfl, rfl⟩)
      | (go_at_call 66; refine M2.out.mono ?_; rintro e w' ⟨rfl, rfl⟩))
    go_ret
    exact ⟨rfl, rfl⟩

set_option maxRecDepth 100000 in
set_option maxHeartbeats 400000 in
theorem write_bad (p : Nat) (n i : Int) (ga : Option Addr) (l c : Nat) (w : World) (c0 : w.cell? ⟨p, 0, none⟩ = some (.int .i64 n)) (hn : 0 < n) (hi : ¬ (0 ≤ i ∧ i < n) ∨ l ≠ 256) :
    Calls Tryz.prog 77 #[.pointer (some ⟨p, 0, none⟩), .int .i64 i, .slice ga l c] w fun e w' => e = .returned (.int .i64 2) ∧ w' = w := by
  have d1 : decide (0 < n) = true := by simpa using hn
  have m1 := made_any p n w c0
  have m2 := hasSector_any p n i w c0
  rw [d1] at m1
  have M1 := hid m1
  clear m1 d1 c0
  by_cases h : 0 ≤ i ∧ i < n
  · have d2 : (decide (0 ≤ i) && decide (i < n)) = true := by simp [h.1, h.2]
    rw [d2] at m2
    have M2 := hid m2
    have h3 : l ≠ 256 := by rcases hi with hi | hi; exact absurd h hi; exact hi
    have h4 : ((l : Int) == 256) = false := by simp; omega
    clear m2 d2 hi h h3
    go_enter Tryz.func77, Tryz.ntmps77
    go_wp2_with (first
      | (go_at_call 51; refine M1.out.mono ?_; rintro e w' ⟨rfl, rfl⟩)
      | (go_at_call 66; refine M2.out.mono ?_; rintro e w' ⟨rfl, rfl⟩))
    go_ret
    exact ⟨rfl, rfl⟩
  · have d2 : (decide (0 ≤ i) && decide (i < n)) = false := by
      rw [Bool.and_eq_false_iff]
      by_cases h : 0 ≤ i
      · right; simp; omega
      · left; simpa using h
    rw [d2] at m2
    have M2 := hid m2
    clear m2 d2 hi h
    go_enter Tryz.func77, Tryz.ntmps77
    go_wp2_with (first
      | (go_at_call 51; refine M1.out.mono ?_; rintro e w' ⟨rfl, rfl⟩)
      | (go_at_call 66; refine M2.out.mono ?_; rintro e w' ⟨rfl, rfl⟩))
    go_ret
    exact ⟨rfl, rfl⟩

set_option maxRecDepth 100000 in
theorem dS_set (bs : List UInt8) (a : Nat) (b : UInt8) : (S bs).toArray.setIfInBounds a (.int .u8 (b.toNat : Int)) = (S (bs.set a b)).toArray := by
  simp only [S, List.setIfInBounds_toArray, List.map_set]; rfl

set_option maxRecDepth 100000 in
set_option maxHeartbeats 2000000 in
theorem spoil_ok (B p hb : Nat) (wv : Value) (D : dSt) (m a : Nat) (b : UInt8) (w : World) (hd : IsDisk w B p hb wv D) (hl : D.W.length ≤ 1000) (hm : (m : Int) < D.size) (ha : a < 256) :
    Calls Tryz.prog 33 #[.pointer (some ⟨p, 0, none⟩), .int .i64 (m : Int), .int .i64 (a : Int), .int .u8 (b.toNat : Int)] w (PSpoil w B p hb wv D (m : Int) a b) := by
  have hzv := zero74
  have d1 : decide (0 < D.size) = true := by simp; omega
  have d2 : (decide (0 ≤ (m : Int)) && decide ((m : Int) < D.size)) = true := by simp; omega
  have m1 := made_any p D.size w (cellOf hd.box 0)
  have m2 := hasSector_any p D.size (m : Int) w (cellOf hd.box 0)
  rw [d1] at m1; rw [d2] at m2
  have M1 := hid m1
  have M2 := hid m2
  clear m1 m2 d1 d2
  obtain ⟨ao, wcap, rfl, hwcap, _⟩ := hd.slice
  have ha0 : ¬ (a : Int) < 0 := by omega
  have ha1 : decide (256 ≤ (a : Int)) = false := by simp; omega
  have c1 : w.cell? ⟨p, 1, none⟩ = some (.map (some hb)) := cellOf hd.box 1
  obtain ⟨es, clock, hmb, hmi⟩ := hd.held
  have hlk := run_lookup_sec (P := Tryz.prog) (w := w) Tryz.underlying45 Tryz.underlying3 (zero74 w) hmb hmi (m : Int)
  have hbl : (D.H (m : Int)).length = 256 := hd.good _
  have hi74 : Hid ((Tryz.prog.info? 115).map (·.size) = some (S (D.H (m : Int))).toArray.size) := show _ = _ by rw [info74, List.size_toArray, length_S, hbl]
  have ho74 : Hid ((S zeros).toArray.size = (S (D.H (m : Int))).toArray.size) := show _ = _ by rw [List.size_toArray, length_S, length_zeros, List.size_toArray, length_S, hbl]
  have HD := hid hd
  have HBL := hid hbl
  clear hd hmb hmi
  generalize hbs : D.H (m : Int) = bs at hlk hi74 ho74 hbl HBL
  have HBS := hid hbs
  clear hbs
  have hset : (w.alloc (.cells (S zeros).toArray 115)).setRow w.heap.size (S bs).toArray = w.alloc (.cells (S bs).toArray 115) := World.setRow_alloc_new _ _ _ _
  have ca : (w.alloc (.cells (S bs).toArray 115)).cell? ⟨w.heap.size, a, none⟩ = some (B8 (bs[a]'(by omega))) := by
    rw [cellOf (heap_alloc_new w _)]; simp [S, hbl, ha]
  have fa : (w.alloc (.cells (S bs).toArray 115)).frozen? ⟨w.heap.size, a, none⟩ = false := frozen_of_row _ _ a _ 115 (heap_alloc_new w _)
  go_enter Tryz.func33, Tryz.ntmps33
  go_upto_region 7 with (first
    | (go_at_call 51; refine M1.out.mono ?_; rintro e _ ⟨rfl, hw⟩; rw [hw])
    | (go_at_call 66; refine M2.out.mono ?_; rintro e _ ⟨rfl, hw⟩; rw [hw])
    | (refine wpList_store_row rfl 115 _ _ rfl w.heap.size (S bs).toArray rfl rfl 115 (S zeros).toArray (heap_alloc_new w _) hi74.out ho74.out (all_oneCell_toArray (one_S _)) ?_; rw [hset]))
  have hA2 : Adds w (w.alloc (.cells ((S bs).set a (.int .u8 (b.toNat : Int))).toArray 115)) := (Touch.refl _ w).alloc _
  have hg2 : (w.alloc (.cells ((S bs).set a (.int .u8 (b.toNat : Int))).toArray 115)).heap[w.heap.size]? = some (.cells (S (bs.set a b)).toArray 115 (0, 0)) := by
    rw [heap_alloc_new, ← List.setIfInBounds_toArray, dS_set]
  generalize hw2 : w.alloc (.cells ((S bs).set a (.int .u8 (b.toNat : Int))).toArray 115) = w2 at hA2 hg2
  have HG2 := hid hg2
  have HD2 := hid (HD.out.adds hA2)
  have hi74b : Hid ((Tryz.prog.info? 115).map (·.size) = some (S (bs.set a b)).toArray.size) := show _ = _ by rw [info74, List.size_toArray, length_S, List.length_set, HBL.out]
  clear hg2 ca fa hset hi74 ho74 hlk hzv c1
  go_wp2_with (first
    | (refine wpList_load_row rfl 115 _ rfl w.heap.size rfl 115 (S (bs.set a b)).toArray (0, 0) _ HG2.out Tryz.underlying115 rfl hi74b.out ?_)
    | (go_at_call 65; refine (hold_any _ p hb _ _ (m : Int) (bs.set a b) _ HD2.out (by rw [List.length_set]; exact HBL.out)).mono ?_; rintro e w8 ⟨rfl, hd8, hT8⟩; have c2r : w8.cell? ⟨p, 2, none⟩ = some (.slice ao D.W.length wcap) := cellOf hd8.box 2))
  have hT9 : Touch (fun k => k = hb ∨ (Value.slice ao D.W.length wcap).ownBlock = some k) w w8 := (hA2.mono (fun _ _ h => h.elim)).then hT8 (fun _ _ h => .inl h)
  have HD8 := hid hd8
  clear hd8 hT8 HD2 HD HG2 hi74b c2r
  go_loopw [46] (fun t wr => ∃ k : Nat, k ≤ D.W.length ∧ t = .int .i64 k ∧ Hid (IsDisk wr B p hb (.slice ao D.W.length wcap) { D with H := upd D.H (m : Int) (bs.set a b), W := spTo (spf (m : Int) a b) D.W k } ∧ Touch (fun k => k = hb ∨ (Value.slice ao D.W.length wcap).ownBlock = some k) w wr)) (fun t _ => D.W.length - (intOf t).toNat)
  case atStart => exact ⟨0, Nat.zero_le _, rfl, by rw [spTo_zero]; exact HD8.out, hT9⟩
  case round =>
    obtain ⟨k, hk, rfl, HH⟩ := hrel
    clear HD8 hT9
    have c2r : wr.cell? ⟨p, 2, none⟩ = some (.slice ao D.W.length wcap) := cellOf HH.out.1.box 2
    by_cases hlt : k < D.W.length
    · have hlen := spTo_len (spf (m : Int) a b) D.W k hk
      have hg? := spTo_get (spf (m : Int) a b) D.W k hlt
      have hgk : (spTo (spf (m : Int) a b) D.W k)[k]'(by rw [hlen]; exact hlt) = D.W[k] := by
        rw [List.getElem?_eq_getElem (by rw [hlen]; exact hlt)] at hg?; simpa using hg?
      obtain ⟨ao', wcap', he, _, hrest⟩ := HH.out.1.slice
      obtain ⟨gw, rfl, _, hc, hr, _⟩ := hrest (show 0 < (spTo (spf (m : Int) a b) D.W k).length by rw [hlen]; omega)
      obtain ⟨rfl, rfl⟩ : ao = some ⟨gw, 0, none⟩ ∧ wcap = wcap' := by
        have := he
        simp only [Value.slice.injEq] at this
        exact ⟨this.1, this.2.2⟩
      have hck := hc k (show k < (spTo (spf (m : Int) a b) D.W k).length by rw [hlen]; exact hlt)
      have hrk := hr k (show k < (spTo (spf (m : Int) a b) D.W k).length by rw [hlen]; exact hlt)
      simp only [hgk] at hck hrk
      have HGD : Hid (D.W[k].2.length = 256) := by
        have := HH.out.1.goodW (D.W[k]) (by show D.W[k] ∈ spTo (spf (m : Int) a b) D.W k; exact List.mem_of_getElem? hg?)
        exact this
      have HG := hid hg?
      have fr : wr.frozen? ⟨gw, k * 257 + 1 + a, none⟩ = false := by
        obtain ⟨c, hc⟩ := own_type HH.out.1.wait rfl
        exact frozen_of_row wr gw _ c 117 hc
      have cx : ∃ u, wr.cell? ⟨gw, k * 257 + 1 + a, none⟩ = some u := ⟨_, hrk a (B8 (D.W[k].2[a]'(by rw [HGD.out]; exact ha))) (by simp [S, HGD.out, ha])⟩
      obtain ⟨u, cu⟩ := cx
      clear hc hr hrest he hgk hg? hrk
      by_cases hx : D.W[k].1 = (m : Int)
      · have hsucc := hid (spTo_succ (spf (m : Int) a b) D.W k hlt)
        rw [spf, if_pos hx] at hsucc
        have HX := hid hx
        have hxb : (D.W[k].1 == (m : Int)) = true := by simp [hx]
        have HSET := hid (IsDisk.setWait (D := { D with H := upd D.H (m : Int) (bs.set a b), W := spTo (spf (m : Int) a b) D.W k }) (cap := wcap) (g := gw) (by rw [hlen]; exact HH.out.1) k D.W[k] HG.out a ha b)
        simp only [hlen] at HSET
        clear hx hlen
        go_wp2
        go_roundw
        case rel =>
          refine ⟨k + 1, by omega, by go_num, ?_, ?_⟩
          · rw [hsucc.out]; exact HSET.out
          · exact Touch.setCell (p := ⟨gw, k * 257 + 1 + a, none⟩) HH.out.2 (fun _ => .inr rfl) _
        case measure => simp [intOf]; omega
      · have hsame := hid (spTo_same (spf (m : Int) a b) D.W k hlt (by rw [spf, if_neg hx]))
        have hxb : (D.W[k].1 == (m : Int)) = false := by simp [hx]
        have HX := hid hx
        clear hx hlen
        go_wp2
        go_roundw
        case rel => exact ⟨k + 1, by omega, by go_num, by rw [hsame.out]; exact HH.out.1, HH.out.2⟩
        case measure => simp [intOf]; omega
    · obtain rfl : k = D.W.length := by omega
      go_wp2
      go_ret
      refine ⟨rfl, ?_, HH.out.2⟩
      have := HH.out.1
      rw [spTo_all] at this
      rw [dSt.spoiled, HBS.out]
      exact this

end Go.Proofs.YtjbdchgadfhffaaGreatDoor
