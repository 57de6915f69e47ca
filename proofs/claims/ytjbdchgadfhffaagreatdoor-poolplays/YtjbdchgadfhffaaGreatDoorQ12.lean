/- Texts put together: DLose, DWorks, DSync, DCut. -/
import Derived.Test.YtjbdchgadfhffaaGreatDoorQ11
import Derived.Deep.DeepCutAuto
import Derived.Deep.LoopGhost
import Derived.Deep.Light
import Derived.Deep.QuietTactic
import Derived.BigQuiet
/- Lose. -/
namespace Go.Proofs.YtjbdchgadfhffaaGreatDoor
open Go.RowKit

/-- A loss as a value: which are kept, the one that is torn, and where. -/
def lossV (ka : Option Addr) (kn kc : Nat) (torn at_ : Int) : Value := .agg #[.slice ka kn kc, .int .i64 torn, .int .i64 at_]
/-- Where the kept marks lie. -/
def KeptAt (w : World) (ka : Option Addr) (ks : List Bool) : Prop := ∀ j (h : j < ks.length), ∃ b o, ka = some ⟨b, o, none⟩ ∧ w.cell? ⟨b, o + j, none⟩ = some (.bool ks[j])

/-- One waiting write, at a loss. -/
def loseOne (ks : List Bool) (torn at_ : Int) (k : Nat) (x : Int × List UInt8) (H : Int → List UInt8) : Int → List UInt8 :=
  if (k : Int) = torn then upd H x.1 (x.2.take at_.toNat ++ (H x.1).drop at_.toNat) else if ks.getD k false = true then upd H x.1 x.2 else H
/-- What is held behind the first k waiting writes, at a loss. -/
def loseTo (H : Int → List UInt8) (W : List (Int × List UInt8)) (ks : List Bool) (torn at_ : Int) : Nat → Int → List UInt8
  | 0 => H
  | k + 1 => match W[k]? with
    | some x => loseOne ks torn at_ k x (loseTo H W ks torn at_ k)
    | none => loseTo H W ks torn at_ k
set_option maxRecDepth 100000 in
theorem lose_torn {H : Int → List UInt8} {W : List (Int × List UInt8)} {ks : List Bool} {torn at_ : Int} {k : Nat} {x : Int × List UInt8} (hW : W[k]? = some x) (ht : (k : Int) = torn) :
    loseTo H W ks torn at_ (k + 1) = upd (loseTo H W ks torn at_ k) x.1 (x.2.take at_.toNat ++ (loseTo H W ks torn at_ k x.1).drop at_.toNat) := by
  rw [loseTo, hW]; simp only [loseOne, if_pos ht]
set_option maxRecDepth 100000 in
theorem lose_kept {H : Int → List UInt8} {W : List (Int × List UInt8)} {ks : List Bool} {torn at_ : Int} {k : Nat} {x : Int × List UInt8} (hW : W[k]? = some x) (ht : ¬ (k : Int) = torn) (hk : ks.getD k false = true) :
    loseTo H W ks torn at_ (k + 1) = upd (loseTo H W ks torn at_ k) x.1 x.2 := by
  rw [loseTo, hW]; simp only [loseOne, if_neg ht, if_pos hk]
set_option maxRecDepth 100000 in
theorem lose_left {H : Int → List UInt8} {W : List (Int × List UInt8)} {ks : List Bool} {torn at_ : Int} {k : Nat} {x : Int × List UInt8} (hW : W[k]? = some x) (ht : ¬ (k : Int) = torn) (hk : ks.getD k false = false) :
    loseTo H W ks torn at_ (k + 1) = loseTo H W ks torn at_ k := by
  rw [loseTo, hW]; simp only [loseOne, if_neg ht, hk]; rfl
/-- The state of the disk behind a loss. -/
def dSt.lost (D : dSt) (ks : List Bool) (torn at_ : Int) : dSt := { size := D.size, H := loseTo D.H D.W ks torn at_ D.W.length, W := [], steps := 0, left := -1 }

set_option maxRecDepth 100000 in
set_option maxHeartbeats 400000 in
theorem lose_un (x : Value) (l : Array Value) (w : World) (hu : ∀ w', Adds w w' → Unmade w' x) : Calls Tryz.prog 31 #[x, .agg l] w fun e w' => e = .returned (.tuple #[.pointer none, .int .i64 1]) ∧ Adds w w' := by
  go_enter Tryz.func31, Tryz.ntmps31
  go_wp2_with (go_at_call 51; refine (show Calls Tryz.prog 51 #[x] _ _ from hu _ ((Touch.refl _ w).alloc _)).mono ?_; rintro e w' ⟨rfl, rfl⟩)
  go_ret2
  exact ⟨rfl, (Touch.refl _ w).alloc _⟩

set_option maxRecDepth 100000 in
theorem wp_copy_row {P : Program} {w : World} {o : Oper} {a : Act} {K : Act → World → Prop} {Q : Exit → Act → World → Prop} (d s : Operand) (dT sT : TypeId)
    (ho : o.op = .call { callee := .builtin .copy, args := #[d, s], argTypes := #[dT, sT] }) (elem : TypeId) (hu : P.underlying dT = some (.slice elem)) (hsz : (P.info? elem).map (·.size) = some 1)
    (g off dLen dCap : Nat) (ad : Addr) (sLen sCap : Nat) (hd : a.eval d = .slice (some ⟨g, off, none⟩) dLen dCap) (hs : a.eval s = .slice (some ad) sLen sCap)
    (cur : Array Value) (t : TypeId) (hg : w.heap[g]? = some (.cells cur t (0, 0))) (cs : List Value) (hn : cs.length = Nat.min sLen dLen)
    (hsrc : ∀ j v, cs[j]? = some v → w.cell? (ad.add j) = some v) (hfit : off + cs.length ≤ cur.size) (h1 : ∀ v ∈ cs, v.oneCell' = true)
    (h : K (a.put o.dst (goInt cs.length)) (w.setRow g (cur.toList.take off ++ cs ++ cur.toList.drop (off + cs.length)).toArray)) : o.wp P a w K Q := by
  have hrun := run_copy_row P w dT sT o.type elem g off dLen dCap ad sLen sCap cur t cs hu hsz hg hn hsrc hfit h1
  unfold Oper.wp execOp
  simp only [ho, resolve, invoke, builtin, Sem.run_bind, Sem.run_pure, Result.andThen_ok, List.map_toArray, List.map_cons, List.map_nil, hd, hs, hrun]
  exact h

theorem dadds_drewN (w : World) (n : Nat) : Adds w (w.drewN n) ∧ (w.drewN n).heap = w.heap := ⟨⟨rfl, rfl, rfl, Nat.le_refl _, fun _ _ _ => rfl⟩, rfl⟩
set_option maxRecDepth 100000 in
theorem cell_heap {w w' : World} (h : w'.heap = w.heap) (a : Addr) : w'.cell? a = w.cell? a := by simp [World.cell?, h]

set_option maxRecDepth 100000 in
theorem IsDisk.mono {w : World} {B C p hb : Nat} {wv : Value} {D : dSt} (h : IsDisk w C p hb wv D) (hB : B ≤ C) : IsDisk w B p hb wv D := by
  refine ⟨h.box, h.held, ⟨h.wait.1, ?_⟩, h.good, h.goodW, by have := h.low.1; omega, by have := h.low.2; omega⟩
  rcases h.wait.2 with hn | ⟨g, cap, cur, e, hb', rest⟩
  · exact .inl hn
  · exact .inr ⟨g, cap, cur, e, by omega, rest⟩

set_option maxRecDepth 100000 in
set_option maxHeartbeats 1000000 in
theorem lose_bad (B p hb : Nat) (wv : Value) (D : dSt) (ka : Option Addr) (kn kc : Nat) (torn at_ : Int) (w : World) (hd : IsDisk w B p hb wv D) (hsz : 0 < D.size) (_hl : D.W.length ≤ 1000) (ht : 0 ≤ torn ∧ torn < D.W.length) (hat : at_ < 0 ∨ 256 < at_) :
    Calls Tryz.prog 31 #[.pointer (some ⟨p, 0, none⟩), lossV ka kn kc torn at_] w fun e w' => e = .returned (.tuple #[.pointer none, .int .i64 2]) ∧ Adds w w' := by
  obtain ⟨ao, cap, rfl, hcap, _⟩ := hd.slice
  have d1 : decide (0 < D.size) = true := by simpa using hsz
  unfold lossV
  have hA1 : Adds w (w.alloc (.cells #[.slice ka kn kc, .int .i64 torn, .int .i64 at_] 40)) := (Touch.refl _ w).alloc _
  have hb1 : (w.alloc (.cells #[.slice ka kn kc, .int .i64 torn, .int .i64 at_] 40)).heap[w.heap.size]? = some (.cells #[.slice ka kn kc, .int .i64 torn, .int .i64 at_] 40 (0, 0)) := heap_alloc_new w _
  generalize hw1 : w.alloc (.cells #[.slice ka kn kc, .int .i64 torn, .int .i64 at_] 40) = w1 at hA1 hb1
  have hd1 := hd.adds hA1
  have m1 := made_any p D.size w1 (cellOf hd1.box 0)
  rw [d1] at m1
  have M1 := hid m1
  have c2 : w1.cell? ⟨p, 2, none⟩ = some (.slice ao D.W.length cap) := cellOf hd1.box 2
  have l1 : w1.cell? ⟨w.heap.size, 1, none⟩ = some (.int .i64 torn) := cellOf hb1 1
  have l2 : w1.cell? ⟨w.heap.size, 2, none⟩ = some (.int .i64 at_) := cellOf hb1 2
  obtain ⟨ht0, ht1⟩ := ht
  have ht1' : decide (torn < (D.W.length : Int)) = true := by simpa using ht1
  have HAT := hid hat
  clear m1 d1 hd hd1 hb1 hat
  go_enter Tryz.func31, Tryz.ntmps31
  go_upto_region 3 with (first | (go_at_call 51; refine M1.out.mono ?_; rintro e _ ⟨rfl, hw'⟩; rw [hw']))
  go_quiet (fail)
  by_cases ha : at_ < 0
  · go_wp2
    go_ret2
    exact ⟨rfl, hA1.trans (dadds_drewN w1 nq).1⟩
  · have ha2 : 256 < at_ := by have := HAT.out; omega
    go_wp2
    go_ret2
    exact ⟨rfl, hA1.trans (dadds_drewN w1 nq).1⟩

/-- What Lose tells, and leaves. -/
def PLose (w : World) (B : Nat) (D' : dSt) (e : Ending) (w' : World) : Prop := ∃ p hb, e = .returned (.tuple #[.pointer (some ⟨p, 0, none⟩), .int .i64 0]) ∧ w.heap.size ≤ p ∧ w.heap.size ≤ hb ∧ IsDisk w' B p hb (.slice none 0 0) D' ∧ Adds w w'

set_option maxRecDepth 100000 in
set_option maxHeartbeats 2000000 in
theorem lose_ok (B p hb : Nat) (wv : Value) (D : dSt) (ka : Option Addr) (kc : Nat) (ks : List Bool) (torn at_ : Int) (w : World) (hd : IsDisk w B p hb wv D) (hl : D.W.length ≤ 1000) (hsz : 0 < D.size) (hB : B ≤ w.heap.size)
    (hk : KeptAt w ka ks) (_hkn : ks.length ≤ 9223372036854775807) (hat : 0 ≤ torn ∧ torn < D.W.length → 0 ≤ at_ ∧ at_ ≤ 256) :
    Calls Tryz.prog 31 #[.pointer (some ⟨p, 0, none⟩), lossV ka ks.length kc torn at_] w (PLose w B (D.lost ks torn at_)) := by
  obtain ⟨ao, cap, rfl, hcap, hrest⟩ := hd.slice
  have HR := hid hrest
  have d1 : decide (0 < D.size) = true := by simpa using hsz
  unfold lossV
  have hA1 : Adds w (w.alloc (.cells #[.slice ka ks.length kc, .int .i64 torn, .int .i64 at_] 40)) := (Touch.refl _ w).alloc _
  have hb1 : (w.alloc (.cells #[.slice ka ks.length kc, .int .i64 torn, .int .i64 at_] 40)).heap[w.heap.size]? = some (.cells #[.slice ka ks.length kc, .int .i64 torn, .int .i64 at_] 40 (0, 0)) := heap_alloc_new w _
  have hs1 : (w.alloc (.cells #[.slice ka ks.length kc, .int .i64 torn, .int .i64 at_] 40)).heap.size = w.heap.size + 1 := by simp
  generalize hw1 : w.alloc (.cells #[.slice ka ks.length kc, .int .i64 torn, .int .i64 at_] 40) = w1 at hA1 hb1 hs1
  have hd1 := hd.adds hA1
  have m1 := made_any p D.size w1 (cellOf hd1.box 0)
  rw [d1] at m1
  have M1 := hid m1
  have c0 : w1.cell? ⟨p, 0, none⟩ = some (.int .i64 D.size) := cellOf hd1.box 0
  have c1 : w1.cell? ⟨p, 1, none⟩ = some (.map (some hb)) := cellOf hd1.box 1
  have c2 : w1.cell? ⟨p, 2, none⟩ = some (.slice ao D.W.length cap) := cellOf hd1.box 2
  have l0 : w1.cell? ⟨w.heap.size, 0, none⟩ = some (.slice ka ks.length kc) := cellOf hb1 0
  have l1 : w1.cell? ⟨w.heap.size, 1, none⟩ = some (.int .i64 torn) := cellOf hb1 1
  have l2 : w1.cell? ⟨w.heap.size, 2, none⟩ = some (.int .i64 at_) := cellOf hb1 2
  have HD := hid hd1
  have HK := hid hk
  have HAT := hid hat
  have HB1 := hid hb1
  clear m1 d1 hrest hd hd1 hk hat hb1
  go_enter Tryz.func31, Tryz.ntmps31
  go_upto_region 3 with (first | (go_at_call 51; refine M1.out.mono ?_; rintro e _ ⟨rfl, hw'⟩; rw [hw']))
  go_cut [6] from 11 (fun t w' => (Adds w1 w' ∧ w'.heap = w1.heap) ∧ t = .bool (decide (0 ≤ torn) && decide (torn < D.W.length)))
  case first =>
    by_cases ht : 0 ≤ torn
    · go_quiet (fail)
      go_wp2
      go_meet
      case rel => exact ⟨dadds_drewN w1 nq, by simp [ht]⟩
    · have ht' : decide (0 ≤ torn) = false := by simpa using ht
      clear ht
      go_quiet (fail)
      go_wp2
      go_meet
      case rel => exact ⟨dadds_drewN w1 nq, by rw [ht']; rfl⟩
  case rest =>
    obtain ⟨⟨hA2, hh2⟩, rfl⟩ := hcut
    have hA3 : Adds w wc := hA1.trans hA2
    have HD2 := hid (HD.out.adds hA2)
    have hs2 : Hid (wc.heap.size = w.heap.size + 1) := show _ = _ by rw [hh2]; exact hs1
    have HB2 := hid (show wc.heap[w.heap.size]? = some (.cells #[.slice ka ks.length kc, .int .i64 torn, .int .i64 at_] 40 (0, 0)) by rw [hh2]; exact HB1.out)
    clear c0 c1 c2 l0 l1 l2 hA1 hA2 hh2 HD HB1 M1 hw1 hw' hs1
    have c0 : wc.cell? ⟨p, 0, none⟩ = some (.int .i64 D.size) := cellOf HD2.out.box 0
    have c1 : wc.cell? ⟨p, 1, none⟩ = some (.map (some hb)) := cellOf HD2.out.box 1
    have c2 : wc.cell? ⟨p, 2, none⟩ = some (.slice ao D.W.length cap) := cellOf HD2.out.box 2
    have l0 : wc.cell? ⟨w.heap.size, 0, none⟩ = some (.slice ka ks.length kc) := cellOf HB2.out 0
    have l1 : wc.cell? ⟨w.heap.size, 1, none⟩ = some (.int .i64 torn) := cellOf HB2.out 1
    have l2 : wc.cell? ⟨w.heap.size, 2, none⟩ = some (.int .i64 at_) := cellOf HB2.out 2
    go_upto_region 4 with fail
    go_cut [6, 37] from 11 (fun _ t w' => w' = wc ∧ t = .bool false)
    case first =>
      by_cases ht : 0 ≤ torn ∧ torn < D.W.length
      · obtain ⟨ha1, ha2⟩ := HAT.out ht
        have hb1 : (decide (0 ≤ torn) && decide (torn < D.W.length)) = true := by simp [ht.1, ht.2]
        have ha1' : decide (at_ < 0) = false := by simp; omega
        have ha2' : decide (256 < at_) = false := by simp; omega
        clear ht
        go_wp2
        go_meet
        case rel => exact ⟨rfl, rfl⟩
      · have hb1 : (decide (0 ≤ torn) && decide (torn < D.W.length)) = false := by
          rw [Bool.and_eq_false_iff]
          by_cases h0 : 0 ≤ torn
          · right; simp; omega
          · left; simpa using h0
        clear ht
        go_wp2
        go_meet
        case rel => exact ⟨rfl, rfl⟩
    case rest =>
      obtain ⟨hwc, rfl⟩ := hcut
      subst hwc
      go_upto_region 6 with fail
      go_cut [7] from 11 (fun t w' => ∃ p' hb', t = .pointer (some ⟨p', 0, none⟩) ∧ IsDisk w' wc.heap.size p' hb' (.slice none 0 0) { size := D.size, H := D.H, W := [], steps := 0, left := -1 } ∧ Adds wc w')
      case first =>
        obtain ⟨es, clock, hmb, hmi⟩ := HD2.out.held
        have M5 := hid (mapsClone_any hb es clock wc.drew hmb)
        have HK1 : Hid (wc.drew.cell? ⟨p, 0, none⟩ = some (.int .i64 D.size) ∧ wc.drew.cell? ⟨p, 1, none⟩ = some (.map (some hb))) := ⟨c0, c1⟩
        have hplt : p < wc.heap.size := (Array.getElem?_eq_some_iff.1 HD2.out.box).1
        go_region_held3 (fun w' => w'.cell? ⟨p, 0, none⟩ = some (.int .i64 D.size) ∧ w'.cell? ⟨p, 1, none⟩ = some (.map (some hb))) (first | exact HK1.out | go_keep) (first | (go_at_call 64; refine M5.out.mono ?_; rintro e w' ⟨rfl, rfl⟩))
        go_wp2
        go_meet
        case rel =>
          refine ⟨wc.heap.size + 1, wc.heap.size, rfl, ⟨?_, ⟨es, clock, ?_, hmi⟩, World.ownsRow_nil _ _ _ _, HD2.out.good, fun x hx => (by cases hx), by omega, Nat.le_refl _⟩, (((Touch.refl _ wc).alloc _).alloc _).drew⟩
          · exact heap_alloc2_new wc _ _
          · exact heap_alloc2_old wc _ _
      case rest =>
        rename World => w3
        obtain ⟨p', hb', rfl, hdn, hAn⟩ := hcut
        have hA4 : Adds w w3 := hA3.trans hAn
        have c2' : w3.cell? ⟨p, 2, none⟩ = some (.slice ao D.W.length cap) := cellOf (HD2.out.adds hAn).box 2
        clear c0 c1 c2 l0 l1 l2
        go_wp2
        go_loopw [54] (fun t wr => ∃ k : Nat, k ≤ D.W.length ∧ t = .int .i64 k ∧ IsDisk wr wc.heap.size p' hb' (.slice none 0 0) { size := D.size, H := loseTo D.H D.W ks torn at_ k, W := [], steps := 0, left := -1 } ∧ Adds wc wr) (fun t _ => D.W.length - (intOf t).toNat)
        case atStart => exact ⟨0, Nat.zero_le _, rfl, hdn, hAn⟩
        case round =>
          obtain ⟨k, hk, rfl, hdr, hAr⟩ := hrel
          by_cases hlt : k < D.W.length
          · obtain ⟨g, rfl, hglt, _, _, hr⟩ := HR.out (by omega)
            have hAw : Adds w wr := hA3.trans hAr
            have hzv := zero76
            have hrk : Hid (wr.rangeAt g (k * 257) (wcells D.W[k])) := fun j v hv => by
              rw [World.cell?_of_block (w := w) (hAw.block g hglt id)]
              exact hr k hlt j v hv
            have hwl : (wcells D.W[k]).length = 257 := length_wcells _ (HD2.out.goodW _ (List.getElem_mem hlt))
            have hi76 : Hid ((Tryz.prog.info? 117).map (·.size) = some (wcells D.W[k]).length) := show _ = _ by rw [info76, hwl]
            have hi76a : Hid ((Tryz.prog.info? 117).map (·.size) = some (wcells D.W[k]).toArray.size) := show _ = _ by rw [info76, List.size_toArray, hwl]
            have ho76 : Hid ((.int .i64 0 :: S zeros).toArray.size = (wcells D.W[k]).toArray.size) := show _ = _ by rw [List.size_toArray, List.size_toArray, List.length_cons, length_S, length_zeros, hwl]
            have hset : (wr.alloc (.cells (.int .i64 0 :: S zeros).toArray 117)).setRow wr.heap.size (wcells D.W[k]).toArray = wr.alloc (.cells (wcells D.W[k]).toArray 117) := World.setRow_alloc_new _ _ _ _
            clear hr c2' hwl
            go_upto_region 9 with fail
            go_cut [8, 9] (fun t8 t9 w' => t8 = .int .i64 k ∧ t9 = .pointer (some ⟨wr.heap.size, 0, none⟩) ∧ w' = wr.alloc (.cells (wcells D.W[k]).toArray 117))
            case first =>
              go_wp2_with (first
                | (refine wpList_load_mid rfl 117 _ rfl g (k * 257) rfl (wcells D.W[k]) _ hrk.out Tryz.underlying117 rfl hi76.out ?_)
                | (refine wpList_store_row rfl 117 _ _ rfl wr.heap.size (wcells D.W[k]).toArray rfl rfl 117 (.int .i64 0 :: S zeros).toArray (heap_alloc_new wr _) hi76a.out ho76.out (all_oneCell_toArray (one_wcells _)) ?_))
              simp only [Act.put]
              go_meet
              case rel => exact ⟨rfl, rfl, hset⟩
            case rest =>
              rename World => w5
              obtain ⟨rfl, rfl, hw5⟩ := hcut
              have hA5 : Adds wr w5 := by rw [hw5]; exact (Touch.refl _ wr).alloc _
              have hg5 : w5.heap[wr.heap.size]? = some (.cells (wcells D.W[k]).toArray 117 (0, 0)) := by rw [hw5]; exact heap_alloc_new wr _
              clear hset hw5 hi76 hi76a ho76 hrk hzv
              have hd5 := hdr.adds hA5
              have hAc5 : Adds wc w5 := hAr.trans hA5
              have hb5 : w5.heap[w.heap.size]? = some (.cells #[.slice ka ks.length kc, .int .i64 torn, .int .i64 at_] 40 (0, 0)) := by
                rw [hAc5.block w.heap.size (by rw [hs2.out]; omega) id]; exact HB2.out
              have l0 : w5.cell? ⟨w.heap.size, 0, none⟩ = some (.slice ka ks.length kc) := cellOf hb5 0
              have l1 : w5.cell? ⟨w.heap.size, 1, none⟩ = some (.int .i64 torn) := cellOf hb5 1
              have x0 : w5.cell? ⟨wr.heap.size, 0, none⟩ = some (.int .i64 D.W[k].1) := cellOf hg5 0
              have xr := hid (show w5.rangeAt wr.heap.size 1 (S D.W[k].2) from fun j v hv => (by rw [cellOf hg5]; simpa [wcells, Nat.add_comm 1 j] using hv))
              have hxl := hid (HD2.out.goodW _ (List.getElem_mem hlt))
              have hWk : D.W[k]? = some D.W[k] := List.getElem?_eq_getElem hlt
              generalize hx : D.W[k] = x at hg5 x0 xr hxl hWk
              clear hx
              have HWK := hid hWk
              have HB5 := hid hb5
              have HD5 := hid hd5
              have HA5 := hid hAc5
              clear hWk hb5 hd5 hAc5 hA5 hg5
              by_cases hto : (k : Int) = torn
              · have hto' : ((k : Int) == torn) = true := by simp [hto]
                have HTO := hid hto
                clear hto
                go_upto_region 11 with fail
                obtain ⟨ha1, ha2⟩ := HAT.out (by have := HTO.out; omega)
                have HST := hid (lose_torn HWK.out HTO.out (H := D.H) (ks := ks) (at_ := at_))
                have hgood := hid (HD5.out.good x.1)
                generalize hHk : loseTo D.H D.W ks torn at_ k = Hk at HST HD5 hgood
                have HHK := hid hHk
                clear hHk
                have hp1 : w5.cell? ⟨p', 1, none⟩ = some (.map (some hb')) := cellOf HD5.out.box 1
                go_cut [10] (fun t w' => t = .pointer (some ⟨w5.heap.size, 0, none⟩) ∧ Adds w5 w' ∧ w'.heap[w5.heap.size]? = some (.cells (S (Hk x.1)).toArray 115 (0, 0)))
                case first =>
                  have hzv := zero74
                  have hi74 : Hid ((Tryz.prog.info? 115).map (·.size) = some (S (Hk x.1)).toArray.size) := show _ = _ by rw [info74, List.size_toArray, length_S, hgood.out]
                  have ho74 : Hid ((S zeros).toArray.size = (S (Hk x.1)).toArray.size) := show _ = _ by rw [List.size_toArray, length_S, length_zeros, List.size_toArray, length_S, hgood.out]
                  have HS0 : Hid (w5.drew.cell? ⟨p', 1, none⟩ = some (.map (some hb')) ∧ w5.drew.cell? ⟨wr.heap.size, 0, none⟩ = some (.int .i64 x.1) ∧ ∃ es clock, w5.drew.heap[hb']? = some (.map es clock) ∧ MapIs es.toList Hk) := ⟨hp1, x0, HD5.out.held⟩
                  have HS1 : Hid ((w5.drew.alloc (.cells (S zeros).toArray 115)).cell? ⟨p', 1, none⟩ = some (.map (some hb')) ∧ (w5.drew.alloc (.cells (S zeros).toArray 115)).cell? ⟨wr.heap.size, 0, none⟩ = some (.int .i64 x.1) ∧ ∃ es clock, (w5.drew.alloc (.cells (S zeros).toArray 115)).heap[hb']? = some (.map es clock) ∧ MapIs es.toList Hk) := by
                    obtain ⟨es, clock, e1, e2⟩ := HD5.out.held
                    exact ⟨(World.cell?_alloc_lt _ _ _ (World.block_lt_of_cell? w5 _ hp1)).trans hp1, (World.cell?_alloc_lt _ _ _ (World.block_lt_of_cell? w5 _ x0)).trans x0, es, clock, (Below.heap_alloc _ _ _ (Array.getElem?_eq_some_iff.1 e1).1).trans e1, e2⟩
                  refine E_begin (S := fun w' => w'.cell? ⟨p', 1, none⟩ = some (.map (some hb')) ∧ w'.cell? ⟨wr.heap.size, 0, none⟩ = some (.int .i64 x.1) ∧ ∃ es clock, w'.heap[hb']? = some (.map es clock) ∧ MapIs es.toList Hk) (X := 8) (by kernel_rfl) ?_
                  refine E_put (i := 0) 64 (v := .pointer (some ⟨p', 0, none⟩)) rfl rfl (by kernel_rfl) (by kernel_rfl) (by kernel_rfl) (by kernel_rfl) (fun _ _ _ h => h) (Or.inl ⟨by rfl, fun _ _ => rfl⟩) HS0.out ?_
                  simp only [Act.put, List.setIfInBounds_toArray, List.set_cons_zero, List.set_cons_succ]
                  refine E_put (i := 1) 65 (v := .pointer (some ⟨p', 0, none⟩)) rfl rfl (by kernel_rfl) (by kernel_rfl) (by kernel_rfl) (by kernel_rfl) (fun _ _ _ h => h) (Or.inl ⟨by rfl, fun _ _ => by go_simp⟩) HS0.out ?_
                  simp only [Act.put, List.setIfInBounds_toArray, List.set_cons_zero, List.set_cons_succ]
                  refine E_put (i := 2) 66 (v := .pointer (some ⟨p', 1, none⟩)) rfl rfl (by kernel_rfl) (by kernel_rfl) (by kernel_rfl) (by kernel_rfl) (fun _ _ _ h => h) (Or.inl ⟨by rfl, fun _ _ => by go_simp⟩) HS0.out ?_
                  simp only [Act.put, List.setIfInBounds_toArray, List.set_cons_zero, List.set_cons_succ]
                  refine E_put (i := 3) 67 (v := .map (some hb')) rfl rfl (by kernel_rfl) (by kernel_rfl) (by kernel_rfl) (by kernel_rfl) (fun _ _ _ h => h) (Or.inl ⟨by rfl, fun w' hw' => ?y3⟩) HS0.out ?_
                  case y3 => have hc := hw'.1; clear hw'; go_simp
                  simp only [Act.put, List.setIfInBounds_toArray, List.set_cons_zero, List.set_cons_succ]
                  refine E_put (i := 4) 68 (v := .pointer (some ⟨wr.heap.size, 0, none⟩)) rfl rfl (by kernel_rfl) (by kernel_rfl) (by kernel_rfl) (by kernel_rfl) (fun _ _ _ h => h) (Or.inl ⟨by rfl, fun _ _ => by go_simp⟩) HS0.out ?_
                  simp only [Act.put, List.setIfInBounds_toArray, List.set_cons_zero, List.set_cons_succ]
                  refine E_put (i := 5) 69 (v := .int .i64 x.1) rfl rfl (by kernel_rfl) (by kernel_rfl) (by kernel_rfl) (by kernel_rfl) (fun _ _ _ h => h) (Or.inl ⟨by rfl, fun w' hw' => ?y5⟩) HS0.out ?_
                  case y5 => have hc := hw'.2.1; clear hw'; go_simp
                  simp only [Act.put, List.setIfInBounds_toArray, List.set_cons_zero, List.set_cons_succ]
                  refine E_put (i := 6) 70 (v := .agg (S (Hk x.1)).toArray) rfl rfl (by kernel_rfl) (by kernel_rfl) (by kernel_rfl) (by kernel_rfl) (fun _ _ _ h => h) (Or.inl ⟨by rfl, fun w' hw' => ?y6⟩) HS0.out ?_
                  case y6 =>
                    obtain ⟨es, clock, e1, e2⟩ := hw'.2.2
                    have hrun := run_lookup_sec (P := Tryz.prog) (w := w') Tryz.underlying45 Tryz.underlying3 (zero74 w') e1 e2 x.1
                    clear hw'
                    go_simp
                  simp only [Act.put, List.setIfInBounds_toArray, List.set_cons_zero, List.set_cons_succ]
                  refine E_do (i := 7) (some 10) (by kernel_rfl) rfl rfl rfl (fun K hK => ?_)
                  go_simp
                  refine hK (.pointer (some ⟨w5.heap.size, 0, none⟩)) _ (fun _ => HS1.out) ?_
                  clear hK K
                  simp only [Act.put, List.setIfInBounds_toArray, List.set_cons_zero, List.set_cons_succ]
                  refine E_do (i := 8) none (by kernel_rfl) rfl rfl rfl (fun K hK => ?_)
                  refine Go.wp_store_row 115 _ _ rfl w5.heap.size (S (Hk x.1)).toArray rfl rfl 115 (S zeros).toArray (heap_alloc_new w5.drew _) hi74.out ho74.out (all_oneCell_toArray (one_S _)) ?_
                  refine hK undef _ (fun h => absurd rfl h) ?_
                  clear hK K
                  simp only [Act.put]
                  refine E_done (by kernel_rfl) ?_ _
                  go_wp2
                  go_meet
                  case rel => exact ⟨rfl, ((Touch.refl _ w5).drew.alloc _).setRow (fun h => absurd h (Nat.lt_irrefl _)) _, setRow_heap _ _ _ _ 115 _ (heap_alloc_new w5.drew _)⟩
                case rest =>
                  rename World => w6
                  obtain ⟨rfl, hA6, hg6⟩ := hcut
                  have l2 : w6.cell? ⟨w.heap.size, 2, none⟩ = some (.int .i64 at_) := by
                    rw [World.cell?_of_block (w := w5) (hA6.block w.heap.size (Array.getElem?_eq_some_iff.1 HB5.out).1 id)]; exact cellOf HB5.out 2
                  have x6 := hid (show w6.rangeAt wr.heap.size 1 (S x.2) from fun j v hv => (by
                    rw [World.cell?_of_block (w := w5) (hA6.block wr.heap.size (World.block_lt_of_cell? w5 _ x0) id)]; exact xr.out j v hv))
                  have y6 : w6.cell? ⟨wr.heap.size, 0, none⟩ = some (.int .i64 x.1) := by
                    rw [World.cell?_of_block (w := w5) (hA6.block wr.heap.size (World.block_lt_of_cell? w5 _ x0) id)]; exact x0
                  have HG6 := hid hg6
                  have hgw : wr.heap.size < w5.heap.size := World.block_lt_of_cell? w5 _ x0
                  clear hg6
                  go_upto_region 12 with fail
                  go_cut [76] (fun _ w' => Touch (fun j => j = w5.heap.size) w6 w' ∧ w'.heap[w5.heap.size]? = some (.cells (S (x.2.take at_.toNat ++ (Hk x.1).drop at_.toNat)).toArray 115 (0, 0)))
                  case first =>
                    have hn : Hid (((S x.2).take at_.toNat).length = Nat.min 256 at_.toNat) := show _ = _ by rw [List.length_take, length_S, hxl.out]; exact Nat.min_comm _ _
                    have hsrc : Hid (∀ j v, ((S x.2).take at_.toNat)[j]? = some v → w6.drew.cell? ((⟨wr.heap.size, 1, none⟩ : Addr).add j) = some v) := fun j v hv => by
                      rw [Addr.add_mid]
                      rw [List.getElem?_take] at hv
                      split at hv
                      · exact x6.out j v hv
                      · cases hv
                    have hfit : Hid (0 + ((S x.2).take at_.toNat).length ≤ (S (Hk x.1)).toArray.size) := show _ ≤ _ by rw [List.length_take, length_S, hxl.out, List.size_toArray, length_S, hgood.out]; omega
                    have h1c : Hid (∀ v ∈ (S x.2).take at_.toNat, v.oneCell' = true) := fun v hv => one_S _ v (List.mem_of_mem_take hv)
                    have ha2' : (at_.toNat : Int) = at_ := Int.toNat_of_nonneg ha1
                    have HC6 : Hid (∀ cs, (w6.drew.setRow w5.heap.size cs).cell? ⟨w.heap.size, 2, none⟩ = some (.int .i64 at_)) := fun cs => (cell_setRow_other w6.drew _ cs _ (Nat.ne_of_lt (Array.getElem?_eq_some_iff.1 HB5.out).1)).trans l2
                    refine E_begin (S := fun w' => w'.cell? ⟨w.heap.size, 2, none⟩ = some (.int .i64 at_)) (X := 6) (by kernel_rfl) ?_
                    refine E_put (i := 0) 71 (v := .pointer (some ⟨w.heap.size, 2, none⟩)) rfl rfl (by kernel_rfl) (by kernel_rfl) (by kernel_rfl) (by kernel_rfl) (fun _ _ _ h => h) (Or.inl ⟨by rfl, fun _ _ => by go_simp⟩) l2 ?_
                    simp only [Act.put, List.setIfInBounds_toArray, List.set_cons_zero, List.set_cons_succ]
                    refine E_put (i := 1) 72 (v := .int .i64 at_) rfl rfl (by kernel_rfl) (by kernel_rfl) (by kernel_rfl) (by kernel_rfl) (fun _ _ _ h => h) (Or.inl ⟨by rfl, fun w' hw' => ?z1⟩) l2 ?_
                    case z1 => have hc : w'.cell? ⟨w.heap.size, 2, none⟩ = some (.int .i64 at_) := hw'; clear hw'; go_simp
                    simp only [Act.put, List.setIfInBounds_toArray, List.set_cons_zero, List.set_cons_succ]
                    refine E_put (i := 2) 73 (v := .slice (some ⟨w5.heap.size, 0, none⟩) at_.toNat 256) rfl rfl (by kernel_rfl) (by kernel_rfl) (by kernel_rfl) (by kernel_rfl) (fun _ _ _ h => h) (Or.inl ⟨by rfl, fun w' _ => ?z2⟩) l2 ?_
                    case z2 => go_simp
                    simp only [Act.put, List.setIfInBounds_toArray, List.set_cons_zero, List.set_cons_succ]
                    refine E_put (i := 3) 74 (v := .pointer (some ⟨wr.heap.size, 1, none⟩)) rfl rfl (by kernel_rfl) (by kernel_rfl) (by kernel_rfl) (by kernel_rfl) (fun _ _ _ h => h) (Or.inl ⟨by rfl, fun _ _ => by go_simp⟩) l2 ?_
                    simp only [Act.put, List.setIfInBounds_toArray, List.set_cons_zero, List.set_cons_succ]
                    refine E_put (i := 4) 75 (v := .slice (some ⟨wr.heap.size, 1, none⟩) 256 256) rfl rfl (by kernel_rfl) (by kernel_rfl) (by kernel_rfl) (by kernel_rfl) (fun _ _ _ h => h) (Or.inl ⟨by rfl, fun _ _ => by go_simp⟩) l2 ?_
                    simp only [Act.put, List.setIfInBounds_toArray, List.set_cons_zero, List.set_cons_succ]
                    refine E_do (i := 5) (some 76) (by kernel_rfl) rfl rfl rfl (fun K hK => ?_)
                    refine wp_copy_row (.tmp 73) (.tmp 75) 37 37 rfl 5 Tryz.underlying37 info5 w5.heap.size 0 at_.toNat 256 ⟨wr.heap.size, 1, none⟩ 256 256 rfl rfl (S (Hk x.1)).toArray 115 HG6.out ((S x.2).take at_.toNat) hn.out hsrc.out hfit.out h1c.out ?_
                    refine hK _ _ (fun _ => HC6.out _) ?_
                    clear hK K
                    simp only [Act.put, List.setIfInBounds_toArray, List.set_cons_zero, List.set_cons_succ]
                    refine E_done (by kernel_rfl) ?_ _
                    go_wp2
                    go_meet
                    case rel =>
                      refine ⟨Touch.setRow (T := fun j => j = w5.heap.size) (Touch.refl _ w6).drew (fun _ => rfl) _, ?_⟩
                      rw [setRow_heap w6.drew w5.heap.size _ _ 115 _ HG6.out]
                      congr 2
                      simp only [length_S, hxl.out]
                      rw [show min at_.toNat 256 = at_.toNat by omega]
                      simp [S, List.map_take, List.map_drop]
                  case rest =>
                    rename World => w7
                    obtain ⟨hT7, hg7⟩ := hcut
                    have HG7 := hid hg7
                    clear hg7
                    have hne5 : p' ≠ w5.heap.size := Nat.ne_of_lt (Array.getElem?_eq_some_iff.1 HD5.out.box).1
                    have hneh : hb' ≠ w5.heap.size := by
                      obtain ⟨es, clock, e1, _⟩ := HD5.out.held
                      exact Nat.ne_of_lt (Array.getElem?_eq_some_iff.1 e1).1
                    have HD7 := hid ((HD5.out.adds hA6).kept hT7 hne5 hneh (fun j hj => by cases hj))
                    have y7 : w7.cell? ⟨wr.heap.size, 0, none⟩ = some (.int .i64 x.1) := by
                      rw [World.cell?_of_block (w := w6) (hT7.block wr.heap.size (World.block_lt_of_cell? w6 _ y6) (Nat.ne_of_lt hgw))]; exact y6
                    have hlen : Hid ((x.2.take at_.toNat ++ (Hk x.1).drop at_.toNat).length = 256) := show _ = _ by rw [List.length_append, List.length_take, List.length_drop, hxl.out, hgood.out]; omega
                    have hi74 : Hid ((Tryz.prog.info? 115).map (·.size) = some (S (x.2.take at_.toNat ++ (Hk x.1).drop at_.toNat)).toArray.size) := show _ = _ by rw [info74, List.size_toArray, length_S, hlen.out]
                    clear hp1 l0 l1 l2 x0 y6 hne5 hneh
                    generalize hbs : x.2.take at_.toNat ++ (Hk x.1).drop at_.toNat = bs at HG7 hlen hi74 HST
                    have HBS := hid hbs
                    clear hbs
                    go_wp2_with (first
                      | (refine wpList_load_row rfl 115 _ rfl w5.heap.size rfl 115 (S bs).toArray (0, 0) _ HG7.out Tryz.underlying115 rfl hi74.out ?_)
                      | (go_at_call 65; refine (hold_any _ p' hb' _ _ x.1 bs _ HD7.out hlen.out).mono ?_; rintro e w8 ⟨rfl, hd8, hT8⟩))
                    go_roundw
                    case rel =>
                      refine ⟨k + 1, by omega, by go_num, by rw [HST.out]; exact hd8, ?_⟩
                      have q1 : Adds wc w7 := (HA5.out.trans hA6).then hT7 (fun j hj e => by have := HA5.out.size; omega)
                      exact q1.then hT8 (fun j hj e => by have := HD5.out.low.2; omega)
                    case measure => simp [intOf]; omega
              · have hto' : ((k : Int) == torn) = false := by simp [hto]
                have HTO := hid hto
                clear hto
                by_cases hkk : k < ks.length
                · obtain ⟨kb, ko, rfl, hkc⟩ := HK.out k hkk
                  have hkc5 : w5.cell? ⟨kb, ko + k, none⟩ = some (.bool ks[k]) := by
                    rw [World.cell?_of_block (w := w) ((hA3.trans HA5.out).block kb (World.block_lt_of_cell? w _ hkc) id)]; exact hkc
                  cases hkv : ks[k] with
                  | true =>
                    have HST := hid (lose_kept HWK.out HTO.out (show ks.getD k false = true by simp [hkk, hkv]) (H := D.H) (at_ := at_))
                    rw [hkv] at hkc5
                    clear hkc hkv
                    have hi74 : Hid ((Tryz.prog.info? 115).map (·.size) = some (S x.2).length) := show _ = _ by rw [info74, length_S, hxl.out]
                    go_wp2_with (first
                      | (refine wpList_load_mid rfl 115 _ rfl wr.heap.size 1 rfl (S x.2) _ xr.out Tryz.underlying115 rfl hi74.out ?_)
                      | (go_at_call 65; refine (hold_any _ p' hb' _ _ x.1 x.2 _ HD5.out hxl.out).mono ?_; rintro e w8 ⟨rfl, hd8, hT8⟩))
                    go_roundw
                    case rel => exact ⟨k + 1, by omega, by go_num, by rw [HST.out]; exact hd8, HA5.out.then hT8 (fun j hj e => by have := HD5.out.low.2; omega)⟩
                    case measure => simp [intOf]; omega
                  | false =>
                    have HST := hid (lose_left HWK.out HTO.out (show ks.getD k false = false by simp [hkk, hkv]) (H := D.H) (at_ := at_))
                    rw [hkv] at hkc5
                    clear hkc hkv
                    go_wp2
                    go_roundw
                    case rel => exact ⟨k + 1, by omega, by go_num, by rw [HST.out]; exact HD5.out, HA5.out⟩
                    case measure => simp [intOf]; omega
                · have HST := hid (lose_left HWK.out HTO.out (show ks.getD k false = false by rw [List.getD_eq_getElem?_getD, List.getElem?_eq_none (by omega)]; rfl) (H := D.H) (at_ := at_))
                  go_wp2
                  go_roundw
                  case rel => exact ⟨k + 1, by omega, by go_num, by rw [HST.out]; exact HD5.out, HA5.out⟩
                  case measure => simp [intOf]; omega
          · obtain rfl : k = D.W.length := by omega
            go_wp2
            go_ret2
            refine ⟨p', hb', rfl, ?_, ?_, ?_, hA3.trans hAr⟩
            · have := hA3.size; have := hdr.low.1; omega
            · have := hA3.size; have := hdr.low.2; omega
            · exact hdr.mono (Nat.le_trans hB hA3.size)

end Go.Proofs.YtjbdchgadfhffaaGreatDoor

/- works: the chapter's example. -/
namespace Go.Proofs.YtjbdchgadfhffaaGreatDoor
open Go.RowKit

/-- What Read tells, in the caller's words. -/
def PReads (w : World) (bs : List UInt8) (e : Ending) (w' : World) : Prop := ∃ g cap, e = .returned (.tuple #[.slice (some ⟨g, 0, none⟩) 256 cap, .int .i64 0]) ∧ (∀ j b, bs[j]? = some b → w'.cell? ⟨g, j, none⟩ = some (.int .u8 (b.toNat : Int))) ∧ w.heap.size ≤ g ∧ g < w'.heap.size ∧ Adds w w'
set_option maxRecDepth 100000 in
theorem dPRead.reads {w : World} {bs : List UInt8} {e : Ending} {w' : World} (h : dPRead w bs e w') : PReads w bs e w' := by
  obtain ⟨v, rfl, hown, hv, hA⟩ := h
  rcases hown.2 with ⟨c, _⟩ | ⟨g, cap, cur, rfl, hg, hh, _⟩
  · exact absurd c hv
  · refine ⟨g, cap, rfl, fun j b hb => ?_, hg, (Array.getElem?_eq_some_iff.1 hh).1, hA⟩
    have hl : (S bs).length = 256 := hown.1
    have hj : j < bs.length := (List.getElem?_eq_some_iff.1 hb).1
    rw [length_S] at hl
    rw [hown.cellAt j (by omega), S_get, hb]; rfl

/-- The state with one write of ones to sector 1. -/
def D1 : dSt := (dSt.new 3).wrote 1 (sec 1)
theorem sec_len (c : UInt8) : (sec c).length = 256 := List.length_replicate
set_option maxRecDepth 100000 in
theorem sec_get (c : UInt8) (j : Nat) (h : j < 256) : (sec c)[j]? = some c := by
  unfold sec; rw [List.getElem?_replicate, if_pos h]
theorem zeros_get (j : Nat) (h : j < 256) : zeros[j]? = some 0 := sec_get 0 j h

set_option maxRecDepth 100000 in
theorem d1_none : (D1.lost [] (-1) 0).H 1 = zeros := by
  show loseTo D1.H D1.W [] (-1) 0 D1.W.length 1 = zeros
  rw [show D1.W.length = 0 + 1 from rfl, lose_left (W := D1.W) (x := (1, sec 1)) rfl (by decide) rfl]; rfl
set_option maxRecDepth 100000 in
theorem d1_kept : (D1.lost [true] (-1) 0).H 1 = sec 1 := by
  show loseTo D1.H D1.W [true] (-1) 0 D1.W.length 1 = sec 1
  rw [show D1.W.length = 0 + 1 from rfl, lose_kept (W := D1.W) (x := (1, sec 1)) rfl (by decide) rfl]; simp [upd]
set_option maxRecDepth 100000 in
theorem d1_torn : (D1.lost [] 0 2).H 1 = (sec 1).take 2 ++ zeros.drop 2 := by
  show loseTo D1.H D1.W [] 0 2 D1.W.length 1 = _
  rw [show D1.W.length = 0 + 1 from rfl, lose_torn (W := D1.W) (x := (1, sec 1)) (torn := 0) (k := 0) rfl rfl]
  show upd _ 1 _ 1 = _
  rw [upd, if_pos rfl]; rfl

theorem bytes_range {w : World} {g : Nat} {bs : List UInt8} (h : dBytes w g bs) : w.rangeAt g 0 (S bs) := rangeAt_row h
theorem kept_nil (w : World) (ka : Option Addr) : KeptAt w ka [] := fun j h => absurd h (by simp)
theorem dSt.new_steps (n : Int) : (dSt.new n).steps = 0 := rfl

end Go.Proofs.YtjbdchgadfhffaaGreatDoor

/- Sync. -/
namespace Go.Proofs.YtjbdchgadfhffaaGreatDoor
open Go.RowKit

/-- What is held behind a sync of W. -/
def syncH (H : Int → List UInt8) (W : List (Int × List UInt8)) : Int → List UInt8 := W.foldl (fun H x => upd H x.1 x.2) H
theorem syncH_has (i : Int) : ∀ (W : List (Int × List UInt8)) (H : Int → List UInt8), syncH H W i = hasOf H W i
  | [], _ => rfl
  | x :: W, H => by
    have ih := syncH_has i W (upd H x.1 x.2)
    simp only [syncH, hasOf, List.foldl_cons] at ih ⊢
    rw [ih]
    congr 1
    unfold upd
    by_cases h : i = x.1
    · rw [if_pos h, if_pos h.symm]
    · rw [if_neg h, if_neg (Ne.symm h)]
set_option maxRecDepth 100000 in
theorem syncH_snoc (H : Int → List UInt8) (W : List (Int × List UInt8)) (k : Nat) (h : k < W.length) : syncH H (W.take (k + 1)) = upd (syncH H (W.take k)) W[k].1 W[k].2 := by
  unfold syncH
  rw [List.take_succ_eq_append_getElem h, List.foldl_append]; rfl

/-- The state behind a sync. -/
def dSt.synced (D : dSt) : dSt := { D with H := syncH D.H D.W, W := [], steps := D.steps + 1, left := less D.left }
/-- What Sync leaves. -/
def PSync (w : World) (B p hb : Nat) (D : dSt) (e : Ending) (w' : World) : Prop := e = .returned (.int .i64 0) ∧ IsDisk w' B p hb (.slice none 0 0) D.synced ∧ Touch (fun k => k = p ∨ k = hb) w w'

set_option maxRecDepth 100000 in
set_option maxHeartbeats 400000 in
theorem sync_off (p : Nat) (n : Int) (w : World) (c0 : w.cell? ⟨p, 0, none⟩ = some (.int .i64 n)) (c4 : w.cell? ⟨p, 4, none⟩ = some (.int .i64 0)) (hn : 0 < n) :
    Calls Tryz.prog 78 #[.pointer (some ⟨p, 0, none⟩)] w fun e w' => e = .returned (.int .i64 10) ∧ w' = w := by
  have d1 : decide (0 < n) = true := by simpa using hn
  have m1 := made_any p n w c0
  have m3 := off_any p 0 w c4
  rw [d1] at m1
  have M1 := hid m1
  have M3 := hid m3
  clear m1 m3 d1 hn c0 c4
  go_enter Tryz.func78, Tryz.ntmps78
  go_wp2_with (first
    | (go_at_call 51; refine M1.out.mono ?_; rintro e w' ⟨rfl, rfl⟩)
    | (go_at_call 63; refine M3.out.mono ?_; rintro e w' ⟨rfl, rfl⟩))
  go_ret
  exact ⟨rfl, rfl⟩

set_option maxRecDepth 100000 in
/-- The memory's side of a sync's end: the slice is nil, one step more. -/
theorem sync_mem {w : World} {B p hb : Nat} {wv : Value} {D : dSt} (hd : IsDisk w B p hb wv D) (s l : Int) :
    IsDisk ((w.setCell ⟨p, 2, none⟩ (.slice none 0 0)).setRow p #[.int .i64 D.size, .map (some hb), .slice none 0 0, .int .i64 s, .int .i64 l]) B p hb (.slice none 0 0) { D with W := [], steps := s, left := l } := by
  obtain ⟨es, clock, h1, h2⟩ := hd.held
  have hne := hd.ne.1
  refine ⟨setRow_heap _ p _ _ 48 _ (heap_setCell_same w p 2 _ 48 _ hd.box), ⟨es, clock, ?_, h2⟩, World.ownsRow_nil _ _ _ _, hd.good, fun x hx => (by cases hx), hd.low⟩
  rw [setRow_other _ p hb _ (Ne.symm hne), heap_setCell_other _ _ _ _ (Ne.symm hne)]; exact h1

set_option maxRecDepth 100000 in
set_option maxHeartbeats 2000000 in
theorem sync_ok (B p hb : Nat) (wv : Value) (D : dSt) (w : World) (hd : IsDisk w B p hb wv D) (hl : D.W.length ≤ 1000) (hsz : 0 < D.size) (hon : D.left ≠ 0)
    (hs0 : 0 ≤ D.steps) (hs1 : D.steps < 1000000) (hl0 : -1 ≤ D.left) (hl1 : D.left ≤ 9223372036854775807) :
    Calls Tryz.prog 78 #[.pointer (some ⟨p, 0, none⟩)] w (PSync w B p hb D) := by
  have hzv := zero76
  have d1 : decide (0 < D.size) = true := by simpa using hsz
  have d3 : (D.left == 0) = false := by simp [hon]
  have m1 := made_any p D.size w (cellOf hd.box 0)
  have m3 := off_any p D.left w (cellOf hd.box 4)
  rw [d1] at m1; rw [d3] at m3
  have M1 := hid m1
  have M3 := hid m3
  obtain ⟨ao, cap, rfl, hcap, _⟩ := hd.slice
  have c2 : w.cell? ⟨p, 2, none⟩ = some (.slice ao D.W.length cap) := cellOf hd.box 2
  have HD := hid hd
  clear m1 m3 d1 d3 hd
  go_enter Tryz.func78, Tryz.ntmps78
  go_wp2_with (first
    | (go_at_call 51; refine M1.out.mono ?_; rintro e _ ⟨rfl, hw⟩; rw [hw])
    | (go_at_call 63; refine M3.out.mono ?_; rintro e _ ⟨rfl, hw⟩; rw [hw]))
  go_loopw [17] (fun t wr => ∃ k : Nat, k ≤ D.W.length ∧ t = .int .i64 k ∧ IsDisk wr B p hb (.slice ao D.W.length cap) { D with H := syncH D.H (D.W.take k) } ∧ Touch (fun j => j = hb) w wr) (fun t _ => D.W.length - (intOf t).toNat)
  case atStart => exact ⟨0, Nat.zero_le _, rfl, HD.out, Touch.refl _ _⟩
  case round =>
    obtain ⟨k, hk, rfl, hdr, hTr⟩ := hrel
    by_cases hlt : k < D.W.length
    · have hHS := hid (syncH_snoc D.H D.W k hlt)
      obtain ⟨ao', cap', he, _, hrest⟩ := hdr.slice
      obtain ⟨g, rfl, hglt, _, _, hr⟩ := hrest (show 0 < D.W.length by omega)
      obtain ⟨rfl, rfl⟩ : ao = some ⟨g, 0, none⟩ ∧ cap = cap' := by simpa using he
      have hrk := hid (hr k hlt)
      have hgood := hid (hdr.goodW _ (List.getElem_mem hlt))
      simp only at hrk hgood
      generalize D.W[k] = x at hHS hrk hgood
      have hwl : (wcells x).length = 257 := length_wcells _ hgood.out
      have hi76 : Hid ((Tryz.prog.info? 117).map (·.size) = some (wcells x).length) := show _ = _ by rw [info76, hwl]
      have hi76a : Hid ((Tryz.prog.info? 117).map (·.size) = some (wcells x).toArray.size) := show _ = _ by rw [info76, List.size_toArray, hwl]
      have ho76 : Hid ((.int .i64 0 :: S zeros).toArray.size = (wcells x).toArray.size) := show _ = _ by rw [List.size_toArray, List.size_toArray, List.length_cons, length_S, length_zeros, hwl]
      have hset : (wr.alloc (.cells (.int .i64 0 :: S zeros).toArray 117)).setRow wr.heap.size (wcells x).toArray = wr.alloc (.cells (wcells x).toArray 117) := World.setRow_alloc_new _ _ _ _
      have hdr' := hid hdr
      clear hr hrest he hwl c2 hdr
      go_upto_region 7 with fail
      go_cut [4] (fun t4 w' => t4 = .pointer (some ⟨wr.heap.size, 0, none⟩) ∧ w' = wr.alloc (.cells (wcells x).toArray 117))
      case first =>
        go_wp2_with (first
          | (refine wpList_load_mid rfl 117 _ rfl g (k * 257) rfl (wcells x) _ hrk.out Tryz.underlying117 rfl hi76.out ?_)
          | (refine wpList_store_row rfl 117 _ _ rfl wr.heap.size (wcells x).toArray rfl rfl 117 (.int .i64 0 :: S zeros).toArray (heap_alloc_new wr _) hi76a.out ho76.out (all_oneCell_toArray (one_wcells _)) ?_))
        go_meet
        case rel => exact ⟨rfl, rfl⟩
      case rest =>
        rename World => w5
        obtain ⟨rfl, hw5⟩ := hcut
        have hA5 : Adds wr w5 := by rw [hw5]; exact (Touch.refl _ wr).alloc _
        have hg5 : w5.heap[wr.heap.size]? = some (.cells (wcells x).toArray 117 (0, 0)) := by rw [hw5]; exact heap_alloc_new wr _
        have x0 : w5.cell? ⟨wr.heap.size, 0, none⟩ = some (.int .i64 x.1) := cellOf hg5 0
        have xr := hid (show w5.rangeAt wr.heap.size 1 (S x.2) from fun j v hv => (by rw [cellOf hg5]; simpa [wcells, Nat.add_comm 1 j] using hv))
        have hi74 : Hid ((Tryz.prog.info? 115).map (·.size) = some (S x.2).length) := show _ = _ by rw [info74, length_S, hgood.out]
        have HD5 := hid (hdr'.out.adds hA5)
        clear hset hw5 hg5 hi76 hi76a ho76 hrk hzv
        go_wp2_with (first
          | (refine wpList_load_mid rfl 115 _ rfl wr.heap.size 1 rfl (S x.2) _ xr.out Tryz.underlying115 rfl hi74.out ?_)
          | (go_at_call 65; refine (hold_any _ p hb _ _ x.1 x.2 _ HD5.out hgood.out).mono ?_; rintro e w8 ⟨rfl, hd8, hT8⟩))
        go_roundw
        case rel =>
          refine ⟨k + 1, by omega, by go_num, by rw [hHS.out]; exact hd8, ?_⟩
          exact (hTr.then hA5 (fun _ _ => False.elim)).trans hT8
        case measure => simp [intOf]; omega
    · obtain rfl : k = D.W.length := by omega
      have f2 : wr.frozen? ⟨p, 2, none⟩ = false := frozen_of_row wr p 2 _ 48 hdr.box
      have c2r : wr.cell? ⟨p, 2, none⟩ = some (.slice ao D.W.length cap) := cellOf hdr.box 2
      have hbox2 := hid (heap_setCell_same wr p 2 _ 48 (.slice none 0 0) hdr.box)
      have HDR := hid hdr
      clear hdr c2
      go_wp2_with (go_at_call 90; refine (step_any p _ _ _ D.steps D.left _ hbox2.out hs0 hs1 hl0 hl1).mono ?_; rintro e w4 ⟨rfl, hw4⟩)
      go_ret
      have hm := sync_mem HDR.out (D.steps + 1) (less D.left)
      subst hw4
      refine ⟨rfl, ?_, ?_⟩
      · rw [List.take_length] at hm; exact hm
      · have hT : Touch (fun j => j = p ∨ j = hb) w wr := hTr.mono (fun j _ e => .inr e)
        exact (hT.setCell (fun _ => .inl rfl) _).setRow (fun _ => .inl rfl) _

/-- What a write, or a sync, turns of a disk whose blocks are new, is new. -/
theorem adds_write {w w2 w3 : World} {p hb : Nat} {wv : Value} {D : dSt} (hA : Adds w w2) (hd : IsDisk w2 w.heap.size p hb wv D) (hT : Touch (fun k => k = p ∨ wv.ownBlock = some k) w2 w3) : Adds w w3 :=
  hA.then hT (fun j hj c => by
    rcases c with rfl | c
    · have := hd.low.1; omega
    · have := (hd.wait.lt j c).1; omega)
theorem adds_sync {w w2 w3 : World} {p hb : Nat} {wv : Value} {D : dSt} (hA : Adds w w2) (hd : IsDisk w2 w.heap.size p hb wv D) (hT : Touch (fun k => k = p ∨ k = hb) w2 w3) : Adds w w3 :=
  hA.then hT (fun j hj c => by
    rcases c with rfl | rfl
    · have := hd.low.1; omega
    · have := hd.low.2; omega)

end Go.Proofs.YtjbdchgadfhffaaGreatDoor

/- Cut, Steps, Size; Write where the power is off, or where it is refused. -/
namespace Go.Proofs.YtjbdchgadfhffaaGreatDoor
open Go.RowKit

/-- The state behind a cut. -/
def dSt.cut (D : dSt) (n : Int) : dSt := { D with left := if D.left = 0 then 0 else n }
/-- What Cut leaves. -/
def dPCut (w : World) (B p hb : Nat) (wv : Value) (D : dSt) (n : Int) (e : Ending) (w' : World) : Prop := e = .returned (.int .i64 0) ∧ IsDisk w' B p hb wv (D.cut n) ∧ Touch (fun k => k = p) w w'

set_option maxRecDepth 100000 in
/-- A disk whose struct has turned in its last cell. -/
theorem IsDisk.setLeft {w : World} {B p hb : Nat} {wv : Value} {D : dSt} (hd : IsDisk w B p hb wv D) (n : Int) : IsDisk (w.setCell ⟨p, 4, none⟩ (.int .i64 n)) B p hb wv { D with left := n } := by
  obtain ⟨es, clock, h1, h2⟩ := hd.held
  have hne := hd.ne
  refine ⟨heap_setCell_same w p 4 _ 48 _ hd.box, ⟨es, clock, ?_, h2⟩, ?_, hd.good, hd.goodW, hd.low⟩
  · rw [heap_setCell_other _ _ _ _ (Ne.symm hne.1)]; exact h1
  · refine hd.wait.kept (row := some p) ⟨rfl, rfl, rfl, by simp, fun k _ hk => heap_setCell_other w _ k _ (fun e => hk (by rw [e]))⟩ ?_
    cases hv : wv.ownBlock with
    | none => exact .inl rfl
    | some k => exact .inr (fun e => (hne.2 k hv).2 (by simpa using e))

set_option maxRecDepth 100000 in
set_option maxHeartbeats 400000 in
theorem cut_bad (p : Nat) (s n : Int) (w : World) (c0 : w.cell? ⟨p, 0, none⟩ = some (.int .i64 s)) (hs : 0 < s) (hn : n < 0) :
    Calls Tryz.prog 29 #[.pointer (some ⟨p, 0, none⟩), .int .i64 n] w fun e w' => e = .returned (.int .i64 2) ∧ w' = w := by
  have d1 : decide (0 < s) = true := by simpa using hs
  have m1 := made_any p s w c0
  rw [d1] at m1
  have M1 := hid m1
  clear m1 d1 hs c0
  go_enter Tryz.func29, Tryz.ntmps29
  go_wp2_with (go_at_call 51; refine M1.out.mono ?_; rintro e w' ⟨rfl, rfl⟩)
  go_ret
  exact ⟨rfl, rfl⟩

set_option maxRecDepth 100000 in
set_option maxHeartbeats 400000 in
theorem cut_ok (B p hb : Nat) (wv : Value) (D : dSt) (n : Int) (w : World) (hd : IsDisk w B p hb wv D) (hsz : 0 < D.size) (hn : 0 ≤ n) :
    Calls Tryz.prog 29 #[.pointer (some ⟨p, 0, none⟩), .int .i64 n] w (dPCut w B p hb wv D n) := by
  have d1 : decide (0 < D.size) = true := by simpa using hsz
  have m1 := made_any p D.size w (cellOf hd.box 0)
  have m3 := off_any p D.left w (cellOf hd.box 4)
  rw [d1] at m1
  have hn' : ¬ n < 0 := by omega
  have c4 : w.cell? ⟨p, 4, none⟩ = some (.int .i64 D.left) := cellOf hd.box 4
  have f4 : w.frozen? ⟨p, 4, none⟩ = false := frozen_of_row w p 4 _ 48 hd.box
  by_cases h : D.left = 0
  · have d3 : (D.left == 0) = true := by simp [h]
    rw [d3] at m3
    have M1 := hid m1
    have M3 := hid m3
    have HD := hid hd
    have HH := hid h
    clear m1 m3 d1 d3 hd h
    go_enter Tryz.func29, Tryz.ntmps29
    go_wp2_with (first
      | (go_at_call 51; refine M1.out.mono ?_; rintro e _ ⟨rfl, hw⟩; rw [hw])
      | (go_at_call 63; refine M3.out.mono ?_; rintro e _ ⟨rfl, hw⟩; rw [hw]))
    go_ret
    refine ⟨rfl, ?_, Touch.refl _ _⟩
    have : D.cut n = D := by cases D; simp only [dSt.cut]; simp only at HH; rw [if_pos HH.out]; rw [HH.out]
    rw [this]; exact HD.out
  · have d3 : (D.left == 0) = false := by simp [h]
    rw [d3] at m3
    have M1 := hid m1
    have M3 := hid m3
    have HD := hid hd
    have HH := hid h
    clear m1 m3 d1 d3 hd h
    go_enter Tryz.func29, Tryz.ntmps29
    go_wp2_with (first
      | (go_at_call 51; refine M1.out.mono ?_; rintro e _ ⟨rfl, hw⟩; rw [hw])
      | (go_at_call 63; refine M3.out.mono ?_; rintro e _ ⟨rfl, hw⟩; rw [hw]))
    go_ret
    refine ⟨rfl, ?_, Touch.setCell (T := fun k => k = p) (Touch.refl _ _) (fun _ => rfl) _⟩
    have : D.cut n = { D with left := n } := by simp only [dSt.cut]; rw [if_neg HH.out]
    rw [this]; exact HD.out.setLeft n

set_option maxRecDepth 100000 in
set_option maxHeartbeats 400000 in
theorem steps_any (p : Nat) (n s : Int) (w : World) (c0 : w.cell? ⟨p, 0, none⟩ = some (.int .i64 n)) (c3 : w.cell? ⟨p, 3, none⟩ = some (.int .i64 s)) (hn : 0 < n) :
    Calls Tryz.prog 17 #[.pointer (some ⟨p, 0, none⟩)] w fun e w' => e = .returned (.int .i64 s) ∧ w' = w := by
  have d1 : decide (0 < n) = true := by simpa using hn
  have m1 := made_any p n w c0
  rw [d1] at m1
  have M1 := hid m1
  clear m1 d1 hn c0
  go_enter Tryz.func17, Tryz.ntmps17
  go_wp2_with (go_at_call 51; refine M1.out.mono ?_; rintro e _ ⟨rfl, hw⟩; rw [hw])
  go_ret
  exact ⟨rfl, rfl⟩

set_option maxRecDepth 100000 in
set_option maxHeartbeats 400000 in
theorem size_any (p : Nat) (n : Int) (w : World) (c0 : w.cell? ⟨p, 0, none⟩ = some (.int .i64 n)) (hn : 0 < n) :
    Calls Tryz.prog 54 #[.pointer (some ⟨p, 0, none⟩)] w fun e w' => e = .returned (.int .i64 n) ∧ w' = w := by
  have d1 : decide (0 < n) = true := by simpa using hn
  have m1 := made_any p n w c0
  rw [d1] at m1
  have M1 := hid m1
  clear m1 d1 hn
  go_enter Tryz.func54, Tryz.ntmps54
  go_wp2_with (go_at_call 51; refine M1.out.mono ?_; rintro e _ ⟨rfl, hw⟩; rw [hw])
  go_ret
  exact ⟨rfl, rfl⟩

set_option maxRecDepth 100000 in
set_option maxHeartbeats 400000 in
theorem write_off (p : Nat) (n i : Int) (ga : Option Addr) (c : Nat) (w : World) (c0 : w.cell? ⟨p, 0, none⟩ = some (.int .i64 n)) (c4 : w.cell? ⟨p, 4, none⟩ = some (.int .i64 0)) (hn : 0 < n) (hi : 0 ≤ i ∧ i < n) :
    Calls Tryz.prog 77 #[.pointer (some ⟨p, 0, none⟩), .int .i64 i, .slice ga 256 c] w fun e w' => e = .returned (.int .i64 10) ∧ w' = w := by
  have d1 : decide (0 < n) = true := by simpa using hn
  have d2 : (decide (0 ≤ i) && decide (i < n)) = true := by simp [hi.1, hi.2]
  have m1 := made_any p n w c0
  have m2 := hasSector_any p n i w c0
  have m3 := off_any p 0 w c4
  rw [d1] at m1; rw [d2] at m2
  have M1 := hid m1
  have M2 := hid m2
  have M3 := hid m3
  clear m1 m2 m3 d1 d2 hi hn c0 c4
  go_enter Tryz.func77, Tryz.ntmps77
  go_wp2_with (first
    | (go_at_call 51; refine M1.out.mono ?_; rintro e w' ⟨rfl, rfl⟩)
    | (go_at_call 66; refine M2.out.mono ?_; rintro e w' ⟨rfl, rfl⟩)
    | (go_at_call 63; refine M3.out.mono ?_; rintro e w' ⟨rfl, rfl⟩))
  go_ret
  exact ⟨rfl, rfl⟩

end Go.Proofs.YtjbdchgadfhffaaGreatDoor
