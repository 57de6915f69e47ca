/- Proved: whatever first, then and l are, the law DiskSynced returns true, and each argument reads behind the call as it read before; no condition. -/
import Derived.Test.YtjjknckcodhnmaaRows
import Derived.Test.YtjjknckcodhnmaaSynFacts
import Derived.Test.YtjjknckcodhnmaaCuts
import Derived.WalkKit
import Derived.ProofKit
import Derived.OpenShut
import Derived.ShutString
import Derived.ChangeOld
import Derived.Below
import Derived.Lib.SmallJoins
namespace Go.Proofs.Ytjjknckcodhnmaa
open Go.ChangeShapes Go.WideShapes Go.ChangeAt Go.RowKit Go.Joins

namespace Synced
open Cuts (CallsAt rem_range wrap_byte wrap_64)

theorem cellRow {w : World} {g j : Nat} {f : Nat → UInt8} (h : w.heap[g]? = some (.cells (S (row6 f j)).toArray 62 (0, 0))) (hj : j < 6) : w.cell? ⟨g, j, none⟩ = some (.int .u8 0) := by
  rw [cellOf h, List.getElem?_toArray, S_get, row6_get f j j hj, if_neg (Nat.lt_irrefl _)]; rfl
/-- A row of six at its place k: behind a store. -/
theorem rowSet {w : World} {g k : Nat} {f : Nat → UInt8} (h : w.heap[g]? = some (.cells (S (row6 f k)).toArray 62 (0, 0))) (hk : k < 6) : (w.setCell ⟨g, k, none⟩ (.int .u8 ((f k).toNat : Int))).heap[g]? = some (.cells (S (row6 f (k + 1))).toArray 62 (0, 0)) := by
  rw [heap_setCell_same w g k _ 62 _ h, row6_step f k hk]
/-- A store into a block that is none of a disk's. -/
theorem diskSet {w : World} {B p hb g k : Nat} {wv : Value} {D : St} {c : Array Value} {t : TypeId} (hd : IsDisk w B p hb wv D) (h : w.heap[g]? = some (.cells c t (0, 0))) (h1 : t ≠ 53) (h2 : t ≠ 76) (v : Value) : IsDisk (w.setCell ⟨g, k, none⟩ v) B p hb wv D := by
  have ap := hd.apart h h1 h2
  exact hd.kept (T := fun j => j = g) (Touch.setCell (T := fun j => j = g) (Touch.refl _ _) (fun _ => rfl) _) (Ne.symm ap.1) (Ne.symm ap.2.1) (fun j hj e => ap.2.2 (by rw [hj, e]))

theorem info4all : ∃ i, Try.prog.info? 4 = some i ∧ i.zero = some (.bool false) ∧ i.size = 1 ∧ i.bytes = 1 := by
  have h : (Try.prog.info? 4).map (fun i => (i.zero, i.size, i.bytes)) = some (some (.bool false), 1, 1) := by kernel_rfl
  cases hq : Try.prog.info? 4 with
  | none => rw [hq] at h; cases h
  | some i =>
    rw [hq] at h
    simp only [Option.map_some, Option.some.injEq, Prod.mk.injEq] at h
    exact ⟨i, rfl, h.1, h.2.1, h.2.2⟩
theorem one_true : ∀ u ∈ [Value.bool true], u.oneCell' = true := fun u hu => by obtain rfl := List.mem_singleton.1 hu; rfl
section
variable {w w' : World} {B n : Nat} {v : Value} {xs : List Value} {O : Obj}
/-- Behind an append of truths a block of another type is as it was. -/
theorem append_side (hg : (w.alloc O).grownBy w' v.ownBlock) (ho : w.ownsRow B 4 1 v n xs) (k : Nat) (c : Array Value) (t : TypeId) (hk : w.heap[k]? = some (.cells c t (0, 0))) (ht : t ≠ 4) : w'.heap[k]? = some (.cells c t (0, 0)) := by
  have hlt := (Array.getElem?_eq_some_iff.1 hk).1
  rw [hg.block k (by simp; omega) (fun e => ?_), Below.heap_alloc _ _ _ hlt]
  · exact hk
  · rcases ho.2 with ⟨rfl, _⟩ | ⟨g, cap, cur, rfl, _, hgg, _⟩
    · cases e
    · obtain rfl : k = g := by simpa [Value.ownBlock] using e
      rw [hgg] at hk; simp at hk; exact ht hk.2.symm
theorem append_disk {p hb : Nat} {wv : Value} {D : St} (hg : (w.alloc O).grownBy w' v.ownBlock) (ho : w.ownsRow B 4 1 v n xs) (hd : IsDisk w B p hb wv D) : IsDisk w' B p hb wv D := by
  refine hd.kept (T := fun k => v.ownBlock = some k) (Touch.grown ((Touch.refl _ w).alloc O) hg (fun k hk _ => hk)) ?_ ?_ ?_
  · intro e
    rcases ho.2 with ⟨rfl, _⟩ | ⟨g, cap, cur, rfl, _, hgg, _⟩
    · cases e
    · obtain rfl : g = p := by simpa [Value.ownBlock] using e
      exact (hd.apart hgg (by decide) (by decide)).1 rfl
  · intro e
    rcases ho.2 with ⟨rfl, _⟩ | ⟨g, cap, cur, rfl, _, hgg, _⟩
    · cases e
    · obtain rfl : g = hb := by simpa [Value.ownBlock] using e
      exact (hd.apart hgg (by decide) (by decide)).2.1 rfl
  · intro k hk e
    rcases ho.2 with ⟨rfl, _⟩ | ⟨g, cap, cur, rfl, _, hgg, _⟩
    · cases e
    · obtain rfl : g = k := by simpa [Value.ownBlock] using e
      exact (hd.apart hgg (by decide) (by decide)).2.2 hk
theorem append_adds {w0 : World} (hg : (w.alloc O).grownBy w' v.ownBlock) (ho : w.ownsRow w0.heap.size 4 1 v n xs) (hA : Adds w0 w) : Adds w0 w' :=
  Touch.grown (hA.alloc O) hg (fun k hk hlt => by have := (ho.lt k hk).1; omega)
end

theorem byte_nat (n : Int) (h0 : 0 ≤ n) (h1 : n < 256) : ∃ c : UInt8, n = (c.toNat : Int) := by
  refine ⟨UInt8.ofNat n.toNat, ?_⟩
  have : (UInt8.ofNat n.toNat).toNat = n.toNat := by simp; omega
  rw [this]; omega
/-- A row of truths is none of a disk's. -/
theorem row_apart {w w1 w2 : World} {B p hb n : Nat} {v wv : Value} {D : St} {xs : List Value} (ho : w.ownsRow B 4 1 v n xs) (hA : Adds w w1) (hd : IsDisk w1 B p hb wv D) (hT : Touch (fun k => k = p ∨ wv.ownBlock = some k) w1 w2) : w2.ownsRow B 4 1 v n xs := by
  refine ⟨ho.1, ?_⟩
  rcases ho.2 with hn | ⟨g, cap, cur, e, hb', hgg, rest⟩
  · exact .inl hn
  · have h1 := Touch.at hA hgg id
    have ap := hd.apart h1 (by decide) (by decide)
    exact .inr ⟨g, cap, cur, e, hb', Touch.at hT h1 (fun c => c.elim ap.1 ap.2.2), rest⟩

theorem row_adds {w w1 : World} {B n : Nat} {v : Value} {xs : List Value} (ho : w.ownsRow B 4 1 v n xs) (hA : Adds w w1) : w1.ownsRow B 4 1 v n xs := by
  refine ⟨ho.1, ?_⟩
  rcases ho.2 with hn | ⟨g, cap, cur, e, hb', hgg, rest⟩
  · exact .inl hn
  · exact .inr ⟨g, cap, cur, e, hb', Touch.at hA hgg id, rest⟩
theorem row_set4 {w : World} {B n g k : Nat} {v u : Value} {xs : List Value} {c : Array Value} (ho : w.ownsRow B 4 1 v n xs) (hg : w.heap[g]? = some (.cells c 62 (0, 0))) : (w.setCell ⟨g, k, none⟩ u).ownsRow B 4 1 v n xs := by
  refine ⟨ho.1, ?_⟩
  rcases ho.2 with hn | ⟨g', cap, cur, e, hb', hgg, rest⟩
  · exact .inl hn
  · refine .inr ⟨g', cap, cur, e, hb', ?_, rest⟩
    rw [heap_setCell_other _ _ _ _ (fun c => ?_)]
    · exact hgg
    · simp only at c; rw [c, hg] at hgg; simp at hgg
/-- A row of truths, all true, as marks of what is kept. -/
theorem kept_row {w : World} {B k : Nat} {v : Value} (ho : w.ownsRow B 4 1 v k (List.replicate k (.bool true))) : ∃ ka kcap, v = .slice ka k kcap ∧ KeptAt w ka (List.replicate k true) := by
  rcases ho.2 with ⟨e, hk⟩ | ⟨g, cap, cur, e, _, _, _⟩
  · subst hk; exact ⟨none, 0, e, fun j h => absurd h (by simp)⟩
  · refine ⟨some ⟨g, 0, none⟩, cap, e, fun j h => ⟨g, 0, rfl, ?_⟩⟩
    have hj : j < k := by simpa using h
    rw [e] at ho
    rw [Nat.zero_add, ho.cellAt j (by omega), List.getElem?_replicate, if_pos hj, List.getElem_replicate]
theorem kept_adds {w w1 : World} {ka : Option Addr} {ks : List Bool} (h : KeptAt w ka ks) (hA : Adds w w1) : KeptAt w1 ka ks := fun j hj => by
  obtain ⟨b, o, e, hc⟩ := h j hj
  exact ⟨b, o, e, below_adds hA hc⟩

/-- How a disk of six sectors stands that is being written to. -/
def Going (w : World) (B p hb : Nat) (wv : Value) (D : St) (k : Nat) : Prop :=
  IsDisk w B p hb wv D ∧ D.size = 6 ∧ D.left = -1 ∧ 0 ≤ D.steps ∧ D.steps ≤ k ∧ D.W.length ≤ k

set_option maxRecDepth 100000 in
set_option maxHeartbeats 4000000 in
theorem walk (a1 a2 : Option Addr) (n1 c1 n2 c2 : Nat) (ka : Option Addr) (kc : Nat) (ks : List Bool) (torn at_ : Int) (w : World) (h1 : CallsAt w a1 n1) (h2 : CallsAt w a2 n2) (hk : KeptAt w ka ks) (hkn : ks.length ≤ 9223372036854775807) :
    Calls Try.prog 5 #[.slice a1 n1 c1, .slice a2 n2 c2, lossV ka ks.length kc torn at_] w (PLaw w) := by
  obtain ⟨hn1, h1c⟩ := h1
  obtain ⟨hn2, h2c⟩ := h2
  have HC1 := hid h1c
  have HC2 := hid h2c
  have HK := hid hk
  clear h1c h2c hk
  unfold lossV
  have hA0 : Adds w (w.alloc (.cells #[.slice ka ks.length kc, .int .i64 torn, .int .i64 at_] 33)) := (Touch.refl _ w).alloc _
  have hl0 : (w.alloc (.cells #[.slice ka ks.length kc, .int .i64 torn, .int .i64 at_] 33)).heap[w.heap.size]? = some (.cells #[.slice ka ks.length kc, .int .i64 torn, .int .i64 at_] 33 (0, 0)) := heap_alloc_new w _
  generalize hw0 : w.alloc (.cells #[.slice ka ks.length kc, .int .i64 torn, .int .i64 at_] 33) = w0 at hA0 hl0
  have HL0 := hid hl0
  clear hl0
  go_enter Try.func5, Try.ntmps5
  go_wp2_with (first
    | (go_at_call 8; refine (new_yes 6 w0 w0.heap.size (Nat.le_refl _) (by decide) (by decide)).mono ?_; rintro e w1 ⟨p, hb, rfl, _, _, hd1, hA1⟩)
    | (go_at_call 10; refine (works_any _).mono ?_; rintro e w2 ⟨rfl, hA2⟩))
  go_loopw [9] (fun t wr => ∃ (k : Nat) (wv : Value) (D : St), k ≤ 12 ∧ t = .int .i64 k ∧ Hid (Going wr w0.heap.size p hb wv D k ∧ Adds w0 wr)) (fun t _ => 12 - (intOf t).toNat)
  case atStart => exact ⟨0, _, _, by omega, rfl, ⟨hd1.adds hA2, rfl, rfl, Int.le_refl _, Int.le_refl _, Nat.le_refl _⟩, hA1.trans hA2⟩
  case round =>
    obtain ⟨k, wv, D, hk, rfl, HH⟩ := hrel
    clear hd1 hA1 hA2
    go_upto_region 5 with fail
    go_cut [56] (fun t w' => w' = wr ∧ t = .bool (decide (k < n1) && decide (k < 12)))
    case first =>
      by_cases hq : k < n1
      · go_wp2
        go_meet
        case rel => exact ⟨rfl, by simp [hq]; omega⟩
      · go_wp2
        go_meet
        case rel => exact ⟨rfl, by simp [hq]⟩
    case rest =>
    obtain ⟨hwc, rfl⟩ := hcut
    subst hwc
    generalize hbb : (decide (k < n1) && decide (k < 12)) = bb
    cases bb with
    | true =>
      as_aux_lemma =>
      have hlt : k < n1 ∧ k < 12 := by simpa using hbb
      clear hbb
      obtain ⟨b, o, z, rfl, hcz, hwz⟩ := HC1.out k hlt.1
      have hbz := bounds_i64 hwz
      obtain ⟨hlt1, hlt2⟩ := hlt
      have hAr : Adds w wc := hA0.trans HH.out.2
      have hcr : wc.cell? ⟨b, o + k, none⟩ = some (.int .i64 z) := below_adds hAr hcz
      have HKEEP := hid (show ∀ w', Adds w w' → w'.cell? ⟨b, o + k, none⟩ = some (.int .i64 z) from fun w' h => below_adds h hcz)
      obtain ⟨c, hcb⟩ := wrap_byte ((k : Int) + 1)
      have M27 := hid (show Calls Try.prog 27 #[.int .u8 (IntKind.u8.wrap ((k : Int) + 1))] wc.drew (fun e w' => ∃ g, e = .returned (.slice (some ⟨g, 0, none⟩) 256 256) ∧ wc.drew.heap.size ≤ g ∧ Bytes w' g (sec c) ∧ Adds wc.drew w') by rw [hcb]; exact filled_any c wc.drew)
      obtain ⟨⟨hd, hsz, hle, hs0, hsk, hWl⟩, hA0r⟩ := HH.out
      have HI := hid (show 0 ≤ IntKind.i64.wrap ((IntKind.u64.wrap z).tmod 6) ∧ IntKind.i64.wrap ((IntKind.u64.wrap z).tmod 6) < D.size by rw [hsz, wrap_64]; exact rem_range z 6 (by decide) (by decide))
      have HW := hid (show D.W.length ≤ 1000 ∧ D.left ≠ 0 ∧ 0 ≤ D.steps ∧ D.steps < 1000000 ∧ -1 ≤ D.left ∧ D.left ≤ 9223372036854775807 from ⟨by omega, by omega, hs0, by omega, by omega, by omega⟩)
      have HD := hid hd
      have HLE := hid (show D.left = -1 ∧ D.size = 6 from ⟨hle, hsz⟩)
      clear hcz hwz hcb hd hle hsz HH
      have hsum : IntKind.i64.wrap ((k : Int) + 1) = (k : Int) + 1 := by rw [wrap_64]; unfold wrap64; omega
      go_upto_region 7 with fail
      go_cut [72] (fun t w' => t = .bool false ∧ ∃ (wv' : Value) (D' : St), Hid (Going w' w0.heap.size p hb wv' D' (k + 1) ∧ Adds w0 w'))
      case first =>
        go_region_held3 (fun w' => w'.cell? ⟨b, o + k, none⟩ = some (.int .i64 z)) (first | exact hcr | exact HKEEP.out _ hAw6 | exact HKEEP.out _ hAw5) (first | (go_at_call 27; refine M27.out.mono ?_; rintro e w5 ⟨g5, rfl, _, hB5, hA5⟩; have hAw5 : Adds w w5 := hAr.drew.trans hA5; have h05 : Adds w0 w5 := hA0r.drew.trans hA5) | (go_at_call 12; refine (write_ok w0.heap.size p hb wv D (IntKind.i64.wrap ((IntKind.u64.wrap z).tmod 6)) g5 0 256 (sec c) w5 (HD.out.adds ((Touch.refl _ wc).drew.trans hA5)) HW.out.1 HI.out HW.out.2.1 (sec_len c) (bytes_range hB5) HW.out.2.2.1 HW.out.2.2.2.1 HW.out.2.2.2.2.1 HW.out.2.2.2.2.2).mono ?_; rintro e w6 ⟨wv6, rfl, hd6, hT6⟩; have h06 : Adds w0 w6 := adds_write h05 (HD.out.adds ((Touch.refl _ wc).drew.trans hA5)) hT6; have hAw6 : Adds w w6 := hA0.trans h06))
        go_wp2
        go_meet
        case rel =>
          refine ⟨rfl, wv6, _, ⟨hd6, HLE.out.2, ?_, ?_, ?_, ?_⟩, h06⟩
          · show less D.left = -1; rw [HLE.out.1]; rfl
          · show 0 ≤ D.steps + 1; omega
          · show D.steps + 1 ≤ _; omega
          · show (D.W ++ [_]).length ≤ _; rw [List.length_append]; simp; omega
      case rest =>
        rename World => w7
        obtain ⟨rfl, wv', D', HH'⟩ := hcut
        clear hcr M27 HD
        go_wp2
        go_roundw
        case rel => exact ⟨k + 1, wv', D', by omega, by go_num, HH'.out⟩
        case measure => simp [intOf]; omega
    | false =>
      as_aux_lemma =>
      clear hbb
      obtain ⟨⟨hd, hsz, hle, hs0, hsk, hWl⟩, hA0r⟩ := HH.out
      have hzz : (#[.int .u8 0, .int .u8 0, .int .u8 0, .int .u8 0, .int .u8 0, .int .u8 0] : Array Value) = (S (row6 (fun _ => 0) 0)).toArray := rfl
      have HDZ := hid ((hd.adds ((Touch.refl _ wc).alloc (.cells (S (row6 (fun _ => 0) 0)).toArray 62))).adds ((Touch.refl _ _).alloc (.cells (S (row6 (fun _ => 0) 0)).toArray 62)))
      have MY := hid (sync_ok w0.heap.size p hb wv D _ HDZ.out (by omega) (by omega) (by omega) hs0 (by omega) (by omega) (by omega))
      have HG1 : Hid (((wc.alloc (.cells (S (row6 (fun _ => 0) 0)).toArray 62)).alloc (.cells (S (row6 (fun _ => 0) 0)).toArray 62)).heap[wc.heap.size]? = some (.cells (S (row6 (fun _ => 0) 0)).toArray 62 (0, 0))) := heap_alloc2_old wc _ _
      have HG2 : Hid (((wc.alloc (.cells (S (row6 (fun _ => 0) 0)).toArray 62)).alloc (.cells (S (row6 (fun _ => 0) 0)).toArray 62)).heap[wc.heap.size + 1]? = some (.cells (S (row6 (fun _ => 0) 0)).toArray 62 (0, 0))) := heap_alloc2_new wc _ _
      have HAZ : Hid (Adds w0 ((wc.alloc (.cells (S (row6 (fun _ => 0) 0)).toArray 62)).alloc (.cells (S (row6 (fun _ => 0) 0)).toArray 62))) := (hA0r.alloc _).alloc _
      have HAZW := hid hA0r
      have HLE := hid (show D.left = -1 ∧ D.size = 6 ∧ 0 ≤ D.steps ∧ D.steps ≤ 12 from ⟨hle, hsz, hs0, by omega⟩)
      clear hd hsz hle hs0 hsk hWl hA0r HH
      go_wp2_with fail
      refine MY.out.mono ?_
      rintro e w8 ⟨rfl, hd8, hT8⟩
      have ap1 := HDZ.out.apart HG1.out (by decide) (by decide)
      have ap2 := HDZ.out.apart HG2.out (by decide) (by decide)
      have G1 := hid (hT8.at HG1.out (fun c => c.elim ap1.1 ap1.2.1))
      have G2 := hid (hT8.at HG2.out (fun c => c.elim ap2.1 ap2.2.1))
      have hA8 : Adds w0 w8 := adds_sync HAZ.out HDZ.out hT8
      have hB : w0.heap.size ≤ wc.heap.size := HAZW.out.size
      have HDS : Hid (IsDisk w8 w0.heap.size p hb (.slice none 0 0) D.synced ∧ D.synced.size = 6 ∧ D.synced.left = -1 ∧ 0 ≤ D.synced.steps ∧ D.synced.steps ≤ 13 ∧ D.synced.W = []) := by
        refine ⟨hd8, HLE.out.2.1, ?_, ?_, ?_, rfl⟩
        · show less D.left = -1; rw [HLE.out.1]; rfl
        · have := HLE.out.2.2.1; show 0 ≤ D.steps + 1; omega
        · have := HLE.out.2.2.2; show D.steps + 1 ≤ 13; omega
      clear hd8 hT8 MY HG1 HG2 HAZ HLE ap1 ap2 hzz HDZ HAZW
      generalize D.synced = Ds at HDS
      generalize wc.heap.size = gw at G1 G2 hB
      go_wp2
      go_loopw [76] (fun t wr => ∃ j : Nat, j ≤ 6 ∧ t = .int .i64 j ∧ Hid (IsDisk wr w0.heap.size p hb (.slice none 0 0) Ds ∧ wr.heap[gw]? = some (.cells (S (row6 (fun i => byte9 (Ds.H i)) j)).toArray 62 (0, 0)) ∧ wr.heap[gw + 1]? = some (.cells (S (row6 (fun _ => 0) 0)).toArray 62 (0, 0)) ∧ Adds w0 wr)) (fun t _ => 6 - (intOf t).toNat)
      case atStart => exact ⟨0, by omega, rfl, HDS.out.1, G1.out, G2.out, hA8⟩
      case round =>
        clear G1 G2 hA8
        obtain ⟨j, hj, rfl, HH2⟩ := hrel
        by_cases hlt : j < 6
        · as_aux_lemma =>
          obtain ⟨hdj, hgj, hg2j, hAj⟩ := HH2.out
          have MR := hid (read_ok w0.heap.size p hb _ Ds (j : Int) wr hdj (by rw [HDS.out.2.2.2.2.2]; decide) (by rw [HDS.out.2.1]; omega) (by rw [HDS.out.2.2.1]; decide))
          have HX := hid (show hasOf Ds.H Ds.W (j : Int) = Ds.H j by rw [HDS.out.2.2.2.2.2]; rfl)
          have HGD := hid (hdj.good j)
          clear hdj hgj hg2j hAj
          go_wp2_with (go_at_call 23; refine MR.out.mono ?_; intro e w9 hr9; obtain ⟨g9, cx, rfl, hcx, hg9, hlt9, hA9⟩ := hr9.reads; have x9 : w9.cell? ⟨g9, 9, none⟩ = some (.int .u8 ((byte9 (Ds.H j)).toNat : Int)) := hcx 9 _ (by rw [HX.out]; exact byte9_get HGD.out); have hgw9 := hid (Touch.at hA9 HH2.out.2.1 id); have y9 : w9.cell? ⟨gw, j, none⟩ = some (.int .u8 0) := cellRow hgw9.out hlt; have f9 : w9.frozen? ⟨gw, j, none⟩ = false := frozen_of_row w9 gw j _ 62 hgw9.out; clear hcx hr9)
          have hst := hid (Touch.at hA9 HH2.out.2.2.1 id)
          have hd9 := hid (HH2.out.1.adds hA9)
          refine ⟨⟨j + 1, by omega, by go_num, diskSet hd9.out hgw9.out (by decide) (by decide) _, rowSet (f := fun i => byte9 (Ds.H i)) hgw9.out hlt, ?_, ?_⟩, by simp only [intOf]; omega⟩
          · rw [heap_setCell_other _ _ _ _ (by simp)]; exact hst.out
          · exact (HH2.out.2.2.2.trans hA9).setCell (fun h => absurd h (by simp; omega)) _
        · as_aux_lemma =>
          obtain rfl : j = 6 := by omega
          obtain ⟨hd6, hg6, hh6, hA6⟩ := HH2.out
          have HO : Hid (((wr.alloc (.cells #[.bool false, .bool false, .bool false, .bool false, .bool false, .bool false] 63)).alloc (.cells #[] 4)).heap[wr.heap.size]? = some (.cells (rowB (fun _ => false)).toArray 63 (0, 0))) := heap_alloc2_old wr _ _
          have hAA : Adds wr ((wr.alloc (.cells #[.bool false, .bool false, .bool false, .bool false, .bool false, .bool false] 63)).alloc (.cells #[] 4)) := ((Touch.refl _ wr).alloc _).alloc _
          have HKO : Hid (((wr.alloc (.cells #[.bool false, .bool false, .bool false, .bool false, .bool false, .bool false] 63)).alloc (.cells #[] 4)).ownsRow w0.heap.size 4 1 (.slice (some ⟨wr.heap.size + 1, 0, none⟩) 0 0) 0 []) := by
            have := World.ownsRow_lit (e := 4) (size := 1) (base := w0.heap.size) (wr.alloc (.cells #[.bool false, .bool false, .bool false, .bool false, .bool false, .bool false] 63)) #[] 0 (by have := hA6.size; simp; omega) (by decide) rfl
            rw [World.size_alloc] at this; exact this
          have H6 := hid (show IsDisk ((wr.alloc (.cells #[.bool false, .bool false, .bool false, .bool false, .bool false, .bool false] 63)).alloc (.cells #[] 4)) w0.heap.size p hb (.slice none 0 0) Ds ∧ _ ∧ _ ∧ _ from ⟨hd6.adds hAA, Touch.at hAA hg6 id, Touch.at hAA hh6 id, hA6.trans hAA⟩)
          have hgo : w0.heap.size ≤ wr.heap.size := hA6.size
          clear hd6 hg6 hh6 hA6 hAA HH2 hj hlt
          go_wp2
          generalize ((wr.alloc (.cells #[.bool false, .bool false, .bool false, .bool false, .bool false, .bool false] 63)).alloc (.cells #[] 4)) = w10 at HO HKO H6
          generalize wr.heap.size = go at HO HKO hgo
          go_loopw [16, 17] (fun v t wr => ∃ (k : Nat) (wv : Value) (D : St) (ov : Nat → Bool), k ≤ 12 ∧ t = .int .i64 k ∧ Hid (IsDisk wr w0.heap.size p hb wv D ∧ (D.size = 6 ∧ D.left = -1 ∧ 0 ≤ D.steps ∧ D.steps ≤ 13 + k ∧ D.W.length = k ∧ D.H = Ds.H) ∧ wr.heap[gw]? = some (.cells (S (row6 (fun i => byte9 (Ds.H i)) 6)).toArray 62 (0, 0)) ∧ wr.heap[gw + 1]? = some (.cells (S (row6 (fun _ => 0) 0)).toArray 62 (0, 0)) ∧ wr.heap[go]? = some (.cells (rowB ov).toArray 63 (0, 0)) ∧ wr.ownsRow w0.heap.size 4 1 v k (List.replicate k (.bool true)) ∧ (∀ i : Nat, i < 6 → (ov i = true ↔ ∃ x ∈ D.W, x.1 = (i : Int))) ∧ Adds w0 wr)) (fun _ t _ => 12 - (intOf t).toNat)
          case atStart =>
            refine ⟨0, _, Ds, fun _ => false, by omega, rfl, H6.out.1, ⟨HDS.out.2.1, HDS.out.2.2.1, HDS.out.2.2.2.1, HDS.out.2.2.2.2.1, by rw [HDS.out.2.2.2.2.2]; rfl, rfl⟩, H6.out.2.1, H6.out.2.2.1, HO.out, HKO.out, ?_, H6.out.2.2.2⟩
            intro i _
            rw [HDS.out.2.2.2.2.2]; simp
          case round =>
            obtain ⟨k, wv, D, ov, hk, rfl, HH3⟩ := hrel
            clear HO HKO H6
            go_upto_region 23 with fail
            go_cut [107] (fun t w' => w' = wr ∧ t = .bool (decide (k < n2) && decide (k < 12)))
            case first =>
              by_cases hq : k < n2
              · go_wp2
                go_meet
                case rel => exact ⟨rfl, by simp [hq]; omega⟩
              · go_wp2
                go_meet
                case rel => exact ⟨rfl, by simp [hq]⟩
            case rest =>
            obtain ⟨hwc, rfl⟩ := hcut
            subst hwc
            generalize hbb : (decide (k < n2) && decide (k < 12)) = bb
            cases bb with
            | true =>
              as_aux_lemma =>
              have hlt : k < n2 ∧ k < 12 := by simpa using hbb
              clear hbb
              obtain ⟨b, o, z, rfl, hcz, hwz⟩ := HC2.out k hlt.1
              have hbz := bounds_i64 hwz
              obtain ⟨hlt1, hlt2⟩ := hlt
              have hcr := below_adds (hA0.trans HH3.out.2.2.2.2.2.2.2) hcz
              have hsr := rem_range z 6 (by decide) (by decide)
              clear hcz hwz
              go_upto_region 26 with fail
              generalize wrap64 ((IntKind.u64.wrap z).tmod 6) = s0 at hsr
              obtain ⟨sN, rfl⟩ := Int.eq_ofNat_of_zero_le hsr.1
              have hs6 : sN < 6 := by omega
              clear hsr hcr
              obtain ⟨hd, hds, hg1, hg2, hgo3, hown, hov, hAd⟩ := HH3.out
              have co : wc.cell? ⟨go, sN, none⟩ = some (.bool (ov sN)) := by rw [cellOf hgo3, List.getElem?_toArray, rowB_get ov sN hs6]
              have fo : wc.frozen? ⟨go, sN, none⟩ = false := frozen_of_row wc go sN _ 63 hgo3
              have hne1 : gw ≠ go := fun e => by rw [e, hgo3] at hg1; simp at hg1
              have hne2 : gw + 1 ≠ go := fun e => by rw [e, hgo3] at hg2; simp at hg2
              have hko : u16.ownBlock = none ∨ u16.ownBlock ≠ some go := by
                rcases hown.2 with ⟨e1, _⟩ | ⟨g, cap, cur, e1, _, hgg, _⟩
                · left; rw [e1]; rfl
                · right; rw [e1]; intro c
                  obtain rfl : g = go := by simpa [Value.ownBlock] using c
                  rw [hgo3] at hgg; simp at hgg
              have hgrow : wc.grownBy (wc.setCell ⟨go, sN, none⟩ (.bool true)) (some go) := ⟨rfl, rfl, rfl, by simp, fun i _ hi => heap_setCell_other wc _ i _ (fun e => hi (by rw [e]))⟩
              have H11 : Hid (IsDisk (wc.setCell ⟨go, sN, none⟩ (.bool true)) w0.heap.size p hb wv D ∧ (wc.setCell ⟨go, sN, none⟩ (.bool true)).heap[gw]? = some (.cells (S (row6 (fun i => byte9 (Ds.H i)) 6)).toArray 62 (0, 0)) ∧ (wc.setCell ⟨go, sN, none⟩ (.bool true)).heap[gw + 1]? = some (.cells (S (row6 (fun _ => 0) 0)).toArray 62 (0, 0)) ∧ (wc.setCell ⟨go, sN, none⟩ (.bool true)).heap[go]? = some (.cells (rowB (fun j => ov j || j == sN)).toArray 63 (0, 0)) ∧ (wc.setCell ⟨go, sN, none⟩ (.bool true)).ownsRow w0.heap.size 4 1 u16 k (List.replicate k (.bool true)) ∧ Adds w0 (wc.setCell ⟨go, sN, none⟩ (.bool true))) := by
                refine ⟨diskSet hd hgo3 (by decide) (by decide) _, ?_, ?_, ?_, hown.kept hgrow hko, hAd.setCell (fun h => absurd h (by simp; omega)) _⟩
                · rw [heap_setCell_other _ _ _ _ hne1]; exact hg1
                · rw [heap_setCell_other _ _ _ _ hne2]; exact hg2
                · rw [heap_setCell_same wc go sN _ 63 _ hgo3, rowB_step ov sN hs6]
              have HDS3 := hid hds
              have HOV := hid hov
              clear hd hds hg1 hg2 hgo3 hown hov hAd hne1 hne2 hko hgrow HH3
              go_upto_region 27 with fail
              generalize wc.setCell ⟨go, sN, none⟩ (.bool true) = w11 at H11
              go_cut [16] (fun v w' => Hid (IsDisk w' w0.heap.size p hb wv D ∧ w'.heap[gw]? = some (.cells (S (row6 (fun i => byte9 (Ds.H i)) 6)).toArray 62 (0, 0)) ∧ w'.heap[gw + 1]? = some (.cells (S (row6 (fun _ => 0) 0)).toArray 62 (0, 0)) ∧ w'.heap[go]? = some (.cells (rowB (fun j => ov j || j == sN)).toArray 63 (0, 0)) ∧ w'.ownsRow w0.heap.size 4 1 v (k + 1) (List.replicate (k + 1) (.bool true)) ∧ Adds w0 w'))
              case first =>
                obtain ⟨i4, hi4, hz0, hz1, hz2⟩ := info4all
                have HOWN : Hid ((w11.alloc (.cells #[.bool true] 4)).ownsRow w0.heap.size 4 1 u16 k (List.replicate k (.bool true))) := H11.out.2.2.2.2.1.alloc _
                have H3 : Hid (k + 1 ≤ maxLen) := show _ ≤ _ by unfold maxLen; omega
                have H4 : Hid ((k + 1) * 1 ≤ 140737488355328) := show _ ≤ _ by omega
                have H5 : Hid (w0.heap.size ≤ (w11.alloc (.cells #[.bool true] 4)).heap.size) := show _ ≤ _ by have := H11.out.2.2.2.2.2.size; simp; omega
                go_wp2_with (at_builtin; refine wpList_append_own _ rfl _ _ 31 rfl w0.heap.size 4 i4 (.bool false) 1 1 Try.underlying31 hi4 hz0 hz1 hz2 rfl (by decide) u16 k (List.replicate k (.bool true)) rfl HOWN.out ⟨w11.heap.size, 0, none⟩ 1 1 [.bool true] rfl rfl (cell_one_new _ _ _) one_true H3.out H4.out H5.out ?_; intro v' w12 hown' hgrow' hnil')
                go_meet
                case rel =>
                  have hT := append_side hgrow' H11.out.2.2.2.2.1
                  refine ⟨?_, hT _ _ _ H11.out.2.1 (by decide), hT _ _ _ H11.out.2.2.1 (by decide), hT _ _ _ H11.out.2.2.2.1 (by decide), ?_, ?_⟩
                  · exact append_disk hgrow' H11.out.2.2.2.2.1 H11.out.1
                  · rw [List.replicate_succ']; exact hown'
                  · exact append_adds hgrow' H11.out.2.2.2.2.1 H11.out.2.2.2.2.2
              case rest =>
                rename World => w12
                have H12 := hcut
                clear hcut H11
                obtain ⟨c, hcb⟩ := byte_nat ((k : Int) + 101) (by omega) (by omega)
                have M27 := hid (show Calls Try.prog 27 #[.int .u8 ((k : Int) + 101)] w12 (fun e w' => ∃ g, e = .returned (.slice (some ⟨g, 0, none⟩) 256 256) ∧ w12.heap.size ≤ g ∧ Bytes w' g (sec c) ∧ Adds w12 w') by rw [hcb]; exact filled_any c w12)
                have HI := hid (show (0 : Int) ≤ (sN : Int) ∧ (sN : Int) < D.size by rw [HDS3.out.1]; omega)
                have HW := hid (show D.W.length ≤ 1000 ∧ D.left ≠ 0 ∧ 0 ≤ D.steps ∧ D.steps < 1000000 ∧ -1 ≤ D.left ∧ D.left ≤ 9223372036854775807 by obtain ⟨q1, q2, q3, q4, q5, q6⟩ := HDS3.out; exact ⟨by omega, by omega, q3, by omega, by omega, by omega⟩)
                clear hcb co fo
                go_wp2_with (first
                  | (go_at_call 27; refine M27.out.mono ?_; rintro e w13 ⟨g13, rfl, _, hB13, hA13⟩)
                  | (go_at_call 12; refine (write_ok w0.heap.size p hb wv D (sN : Int) g13 0 256 (sec c) w13 (H12.out.1.adds hA13) HW.out.1 HI.out HW.out.2.1 (sec_len c) (bytes_range hB13) HW.out.2.2.1 HW.out.2.2.2.1 HW.out.2.2.2.2.1 HW.out.2.2.2.2.2).mono ?_; rintro e w14 ⟨wv14, rfl, hd14, hT14⟩))
                go_roundw
                case rel =>
                  obtain ⟨e1, e2, e3, e4, e5, e6⟩ := H12.out
                  have ap1 := (e1.adds hA13).apart (Touch.at hA13 e2 id) (by decide) (by decide)
                  have ap2 := (e1.adds hA13).apart (Touch.at hA13 e3 id) (by decide) (by decide)
                  have ap3 := (e1.adds hA13).apart (Touch.at hA13 e4 id) (by decide) (by decide)
                  obtain ⟨q1, q2, q3, q4, q5, q6⟩ := HDS3.out
                  (repeat apply Exists.intro)
                  refine ⟨?_, rfl⟩
                  refine ⟨k + 1, wv14, D.wrote (sN : Int) (sec c), fun j => ov j || j == sN, by omega, by go_num, hd14, ⟨q1, ?_, ?_, ?_, ?_, q6⟩, Touch.at hT14 (Touch.at hA13 e2 id) (fun c => c.elim ap1.1 ap1.2.2), Touch.at hT14 (Touch.at hA13 e3 id) (fun c => c.elim ap2.1 ap2.2.2), Touch.at hT14 (Touch.at hA13 e4 id) (fun c => c.elim ap3.1 ap3.2.2), ?_, ?_, adds_write (e6.trans hA13) (e1.adds hA13) hT14⟩
                  · show less D.left = -1; rw [q2]; rfl
                  · show 0 ≤ D.steps + 1; omega
                  · show D.steps + 1 ≤ _; omega
                  · show (D.W ++ [_]).length = _; rw [List.length_append, q5]; rfl
                  · exact row_apart e5 hA13 (e1.adds hA13) hT14
                  · intro i hi6
                    have := HOV.out i hi6
                    show (ov i || i == sN) = true ↔ ∃ x ∈ D.W ++ [((sN : Int), sec c)], x.1 = (i : Int)
                    rw [Bool.or_eq_true, this]
                    constructor
                    · rintro (⟨x, hx, hxi⟩ | h)
                      · exact ⟨x, List.mem_append_left _ hx, hxi⟩
                      · exact ⟨_, List.mem_append_right _ (List.mem_singleton.2 rfl), by rw [show i = sN by simpa using h]⟩
                    · rintro ⟨x, hx, hxi⟩
                      rcases List.mem_append.1 hx with hx | hx
                      · exact .inl ⟨x, hx, hxi⟩
                      · obtain rfl := List.mem_singleton.1 hx
                        right; simp only at hxi; simp; omega
                case measure => simp [intOf]; omega
            | false =>
              as_aux_lemma =>
              clear hbb HC2
              obtain ⟨hd, hds, hg1, hg2, hgo3, hown, hov, hAd⟩ := HH3.out
              have H4 := hid (show IsDisk wc w0.heap.size p hb wv D ∧ _ ∧ _ ∧ _ ∧ _ ∧ _ from ⟨hd, hg1, hg2, hgo3, hown, hAd⟩)
              have HDS3 := hid hds
              have HOV := hid hov
              clear hd hds hg1 hg2 hgo3 hown hov hAd HH3
              go_wp2
              go_loopw [130] (fun t wr => ∃ j : Nat, j ≤ 6 ∧ t = .int .i64 j ∧ Hid (IsDisk wr w0.heap.size p hb wv D ∧ wr.heap[gw]? = some (.cells (S (row6 (fun i => byte9 (Ds.H i)) 6)).toArray 62 (0, 0)) ∧ wr.heap[gw + 1]? = some (.cells (S (row6 (fun i => byte9 (hasOf D.H D.W i)) j)).toArray 62 (0, 0)) ∧ wr.heap[go]? = some (.cells (rowB ov).toArray 63 (0, 0)) ∧ wr.ownsRow w0.heap.size 4 1 u16 k (List.replicate k (.bool true)) ∧ Adds w0 wr)) (fun t _ => 6 - (intOf t).toNat)
              case atStart => exact ⟨0, by omega, rfl, H4.out⟩
              case round =>
                obtain ⟨j, hj, rfl, HH4⟩ := hrel
                clear H4
                by_cases hlt : j < 6
                · as_aux_lemma =>
                  have MR := hid (read_ok w0.heap.size p hb _ D (j : Int) wr HH4.out.1 (by rw [HDS3.out.2.2.2.2.1]; omega) (by rw [HDS3.out.1]; omega) (by rw [HDS3.out.2.1]; decide))
                  have HGD := hid (hasOf_len (j : Int) HH4.out.1.good D.W HH4.out.1.goodW)
                  have HNO := hid (show ov j = false → hasOf D.H D.W (j : Int) = Ds.H j from fun h => by
                    rw [hasOf_none, HDS3.out.2.2.2.2.2]
                    intro x hx e
                    have := (HOV.out j hlt).2 ⟨x, hx, e⟩
                    rw [h] at this; cases this)
                  go_upto_region 34 with (go_at_call 23; refine MR.out.mono ?_; intro e w9 hr9; obtain ⟨g9, cx, rfl, hcx, hg9, hlt9, hA9⟩ := hr9.reads; have x9 : w9.cell? ⟨g9, 9, none⟩ = some (.int .u8 ((byte9 (hasOf D.H D.W j)).toNat : Int)) := hcx 9 _ (byte9_get HGD.out); clear hcx hr9)
                  have hgw9 := hid (Touch.at hA9 HH4.out.2.1 id)
                  have hgn9 := hid (Touch.at hA9 HH4.out.2.2.1 id)
                  have hgo9 := hid (Touch.at hA9 HH4.out.2.2.2.1 id)
                  have o9 : w9.cell? ⟨go, j, none⟩ = some (.bool (ov j)) := by rw [cellOf hgo9.out, List.getElem?_toArray, rowB_get ov j hlt]
                  have y9 : w9.cell? ⟨gw, j, none⟩ = some (.int .u8 ((byte9 (Ds.H j)).toNat : Int)) := by rw [cellOf hgw9.out, List.getElem?_toArray, S_get, row6_get _ _ j hlt, if_pos hlt]; rfl
                  go_cut [160] (fun t w' => t = .bool false ∧ Adds w9 w' ∧ w'.heap = w9.heap)
                  case first =>
                    cases hvj : ov j with
                    | true =>
                      rw [hvj] at o9
                      clear hvj
                      go_quiet (fail)
                      go_wp2
                      go_meet
                      case rel => exact ⟨rfl, adds_drewN w9 nq⟩
                    | false =>
                      rw [hvj] at o9
                      rw [HNO.out hvj] at x9
                      clear hvj
                      go_quiet (fail)
                      go_wp2
                      go_meet
                      case rel => exact ⟨rfl, adds_drewN w9 nq⟩
                  case rest =>
                    rename World => w15
                    obtain ⟨rfl, hA15, hh15⟩ := hcut
                    have x15 : w15.cell? ⟨g9, 9, none⟩ = some (.int .u8 ((byte9 (hasOf D.H D.W j)).toNat : Int)) := by rw [cell_heap hh15]; exact x9
                    have hgn15 := hid ((congrArg (fun h : Array Obj => h[gw + 1]?) hh15).trans hgn9.out)
                    have n15 : w15.cell? ⟨gw + 1, j, none⟩ = some (.int .u8 0) := cellRow hgn15.out hlt
                    have f15 : w15.frozen? ⟨gw + 1, j, none⟩ = false := frozen_of_row w15 (gw + 1) j _ 62 hgn15.out
                    clear x9 o9 y9
                    go_wp2
                    go_roundw
                    case rel =>
                      have q0 := HH4.out
                      have hA : Adds wr w15 := hA9.trans hA15
                      have hne : go ≠ gw + 1 := fun e => by have := hgo9.out; rw [e, hgn9.out] at this; simp at this
                      (repeat apply Exists.intro)
                      refine ⟨?_, rfl⟩
                      refine ⟨j + 1, by omega, by go_num, diskSet (q0.1.adds hA) hgn15.out (by decide) (by decide) _, ?_, rowSet (f := fun i => byte9 (hasOf D.H D.W i)) hgn15.out hlt, ?_, ?_, ?_⟩
                      · rw [heap_setCell_other _ _ _ _ (by simp)]; exact Touch.at hA q0.2.1 id
                      · rw [heap_setCell_other _ _ _ _ hne]; exact Touch.at hA q0.2.2.2.1 id
                      · exact row_set4 (row_adds q0.2.2.2.2.1 hA) hgn15.out
                      · exact (q0.2.2.2.2.2.trans hA).setCell (fun h => absurd h (by simp; omega)) _
                    case measure => simp [intOf]; omega
                · as_aux_lemma =>
                  obtain rfl : j = 6 := by omega
                  obtain ⟨hd, hg1, hg2, hgo3, hown, hAd⟩ := HH4.out
                  obtain ⟨kb, kcap, hu16, hkept⟩ := kept_row hown
                  subst hu16
                  have hWk : D.W.length = k := HDS3.out.2.2.2.2.1
                  have hW1 : D.W.length ≤ 1000 := by omega
                  have hsz0 : 0 < D.size := by rw [HDS3.out.1]; decide
                  have hBw : w0.heap.size ≤ wr.heap.size := hAd.size
                  have L1 := hid (lose_ok w0.heap.size p hb wv D none 0 [] (-1) 0 wr hd hW1 hsz0 hBw (kept_nil _ _) (by decide) (by omega))
                  have H5 := hid (show IsDisk wr w0.heap.size p hb wv D ∧ _ ∧ _ ∧ _ ∧ _ ∧ _ from ⟨hd, hg1, hg2, hgo3, hkept, hAd⟩)
                  clear hd hg1 hg2 hgo3 hown hkept hAd HH4 hlt hj
                  unfold lossV at L1
                  simp only [List.length_nil] at L1
                  go_wp2_with fail
                  refine L1.out.mono ?_
                  rintro e w16 ⟨pn, hn16, rfl, _, _, hdn, hA16⟩
                  have L2 := hid (lose_ok w0.heap.size p hb wv D kb kcap (List.replicate k true) (-1) 0 w16 (H5.out.1.adds hA16) hW1 hsz0 (Nat.le_trans hBw hA16.size) (kept_adds H5.out.2.2.2.2.1 hA16) (by rw [List.length_replicate]; omega) (by omega))
                  unfold lossV at L2
                  rw [List.length_replicate] at L2
                  have HDN := hid hdn
                  clear L1 hdn
                  go_wp2_with fail
                  refine L2.out.mono ?_
                  rintro e w17 ⟨pa, hn17, rfl, _, _, hda, hA17⟩
                  have HDA := hid hda
                  have hA5 : Adds wr w17 := hA16.trans hA17
                  have H0 := hid (show Adds w0 w17 from H5.out.2.2.2.2.2.trans hA5)
                  have hb17 := hid (Touch.at H0.out HL0.out id)
                  have l0 : w17.cell? ⟨w.heap.size, 0, none⟩ = some (.slice ka ks.length kc) := cellOf hb17.out 0
                  have l1 : w17.cell? ⟨w.heap.size, 1, none⟩ = some (.int .i64 torn) := cellOf hb17.out 1
                  have l2 : w17.cell? ⟨w.heap.size, 2, none⟩ = some (.int .i64 at_) := cellOf hb17.out 2
                  clear L2 hda
                  go_upto_region 40 with fail
                  go_cut [26, 27] (fun x t w' => ∃ hv : Int, t = .int .i64 hv ∧ Hid ((hv = 0 ∨ hv = 2) ∧ (hv = 0 → ∃ p3 h3, x = .pointer (some ⟨p3, 0, none⟩) ∧ IsDisk w' w0.heap.size p3 h3 (.slice none 0 0) (D.lost ks torn at_)) ∧ Adds w17 w'))
                  case first =>
                    by_cases hto : 0 ≤ torn ∧ torn < D.W.length ∧ ¬ (0 ≤ at_ ∧ at_ ≤ 256)
                    · have L3 := hid (lose_bad w0.heap.size p hb wv D ka ks.length kc torn at_ w17 (H5.out.1.adds hA5) hsz0 hW1 ⟨hto.1, hto.2.1⟩ (by omega))
                      unfold lossV at L3
                      clear hto
                      go_wp2_with (go_at_call 18; refine L3.out.mono ?_; rintro e w18 ⟨rfl, hA18⟩)
                      go_meet
                      case rel => exact ⟨2, rfl, .inr rfl, fun h => (by cases h), hA18⟩
                    · have L3 := hid (lose_ok w0.heap.size p hb wv D ka kc ks torn at_ w17 (H5.out.1.adds hA5) hW1 hsz0 H0.out.size (kept_adds HK.out (hA0.trans H0.out)) hkn (fun h => by omega))
                      unfold lossV at L3
                      clear hto
                      go_wp2_with (go_at_call 18; refine L3.out.mono ?_; rintro e w18 ⟨p3, h3, rfl, _, _, hd3, hA18⟩)
                      go_meet
                      case rel => exact ⟨0, rfl, .inl rfl, fun _ => ⟨p3, h3, rfl, hd3⟩, hA18⟩
                  case rest =>
                    rename World => w18
                    obtain ⟨hv, rfl, HV⟩ := hcut
                    clear l0 l1 l2 hb17
                    go_upto_region 41 with fail
                    go_cut [207] (fun t w' => t = .bool false ∧ w' = w18)
                    case first =>
                      rcases HV.out.1 with rfl | rfl
                      · go_wp2
                        go_meet
                        case rel => exact ⟨rfl, rfl⟩
                      · go_wp2
                        go_meet
                        case rel => exact ⟨rfl, rfl⟩
                    case rest =>
                      as_aux_lemma =>
                      obtain ⟨rfl, hw18⟩ := hcut
                      rw [hw18]
                      clear hw18
                      have hA518 : Adds wr w18 := hA5.trans HV.out.2.2
                      have HN := hid (show IsDisk w18 w0.heap.size pn hn16 (.slice none 0 0) (D.lost [] (-1) 0) from (HDN.out.adds hA17).adds HV.out.2.2)
                      have HA := hid (show IsDisk w18 w0.heap.size pa hn17 (.slice none 0 0) (D.lost (List.replicate k true) (-1) 0) from HDA.out.adds HV.out.2.2)
                      have HG := hid (show w18.heap[gw]? = _ ∧ w18.heap[gw + 1]? = _ ∧ w18.heap[go]? = _ ∧ Adds w0 w18 from ⟨Touch.at hA518 H5.out.2.1 id, Touch.at hA518 H5.out.2.2.1 id, Touch.at hA518 H5.out.2.2.2.1 id, H0.out.trans HV.out.2.2⟩)
                      have HF := hid (show ∀ j : Nat, j < 6 → (D.lost [] (-1) 0).H j = Ds.H j ∧ (D.lost (List.replicate k true) (-1) 0).H j = hasOf D.H D.W j ∧ (ov j = false → (D.lost ks torn at_).H j = Ds.H j) from fun j hj => ⟨by
                        show loseTo D.H D.W [] (-1) 0 D.W.length j = _
                        rw [lose_nothing, HDS3.out.2.2.2.2.2], by
                        show loseTo D.H D.W (List.replicate k true) (-1) 0 D.W.length j = _
                        rw [← hWk, lose_all _ (Nat.le_refl _), List.take_length, syncH_has], fun h => by
                        show loseTo D.H D.W ks torn at_ D.W.length j = _
                        rw [lose_apart, HDS3.out.2.2.2.2.2]
                        intro x hx e
                        have := (HOV.out j hj).2 ⟨x, hx, e⟩
                        rw [h] at this; cases this⟩)
                      clear hA518 hA5 H5 H0 HDN HDA hA16 hA17 HOV
                      go_wp2
                      go_loopw [208] (fun t wr => ∃ j : Nat, j ≤ 6 ∧ t = .int .i64 j ∧ Adds w18 wr) (fun t _ => 6 - (intOf t).toNat)
                      case atStart => exact ⟨0, by omega, rfl, Touch.refl _ _⟩
                      case round =>
                        obtain ⟨j, hj, rfl, hAj⟩ := hrel
                        by_cases hlt : j < 6
                        · as_aux_lemma =>
                          have MRn := hid (read_ok w0.heap.size pn hn16 _ (D.lost [] (-1) 0) (j : Int) wr (HN.out.adds hAj) (show 0 ≤ 1000 by decide) (show 0 ≤ (j : Int) ∧ (j : Int) < D.size by rw [HDS3.out.1]; omega) (show (-1 : Int) ≠ 0 by decide))
                          have HL1 := hid ((HN.out.good (j : Int)))
                          have HL2 := hid ((HA.out.good (j : Int)))
                          go_upto_region 47 with (go_at_call 23; refine MRn.out.mono ?_; intro e w20 hr; obtain ⟨g20, cx20, rfl, hcx, _, hlt20, hA20⟩ := hr.reads; have x20 : w20.cell? ⟨g20, 9, none⟩ = some (.int .u8 ((byte9 (Ds.H j)).toNat : Int)) := hcx 9 _ (by show (hasOf _ [] (j : Int))[9]? = _; rw [hasOf_none (by simp), (HF.out j hlt).1]; have := HL1.out; rw [(HF.out j hlt).1] at this; exact byte9_get this); clear hcx hr)
                          have MRa := hid (read_ok w0.heap.size pa hn17 _ (D.lost (List.replicate k true) (-1) 0) (j : Int) w20 (HA.out.adds (hAj.trans hA20)) (show 0 ≤ 1000 by decide) (show 0 ≤ (j : Int) ∧ (j : Int) < D.size by rw [HDS3.out.1]; omega) (show (-1 : Int) ≠ 0 by decide))
                          clear MRn
                          go_upto_region 48 with (go_at_call 23; refine MRa.out.mono ?_; intro e w21 hr; obtain ⟨g21, cx21, rfl, hcx, _, hlt21, hA21⟩ := hr.reads; have x21 : w21.cell? ⟨g21, 9, none⟩ = some (.int .u8 ((byte9 (hasOf D.H D.W j)).toNat : Int)) := hcx 9 _ (by show (hasOf _ [] (j : Int))[9]? = _; rw [hasOf_none (by simp), (HF.out j hlt).2.1]; have := HL2.out; rw [(HF.out j hlt).2.1] at this; exact byte9_get this); clear hcx hr)
                          clear MRa
                          have hAw : Adds w18 w21 := (hAj.trans hA20).trans hA21
                          have x20' : w21.cell? ⟨g20, 9, none⟩ = some (.int .u8 ((byte9 (Ds.H j)).toNat : Int)) := below_adds hA21 x20
                          have y21 : w21.cell? ⟨gw, j, none⟩ = some (.int .u8 ((byte9 (Ds.H j)).toNat : Int)) := by rw [cellOf (Touch.at hAw HG.out.1 id), List.getElem?_toArray, S_get, row6_get _ _ j hlt, if_pos hlt]; rfl
                          have n21 : w21.cell? ⟨gw + 1, j, none⟩ = some (.int .u8 ((byte9 (hasOf D.H D.W j)).toNat : Int)) := by rw [cellOf (Touch.at hAw HG.out.2.1 id), List.getElem?_toArray, S_get, row6_get _ _ j hlt, if_pos hlt]; rfl
                          have o21 : w21.cell? ⟨go, j, none⟩ = some (.bool (ov j)) := by rw [cellOf (Touch.at hAw HG.out.2.2.1 id), List.getElem?_toArray, rowB_get ov j hlt]
                          clear x20 hA20 hA21 HL1 HL2
                          go_cut [256] (fun t w' => t = .bool false ∧ Adds w21 w' ∧ w'.heap = w21.heap)
                          case first =>
                            as_aux_lemma =>
                            go_quiet (fail)
                            go_wp2
                            go_meet
                            case rel => exact ⟨rfl, adds_drewN w21 nq⟩
                          case rest =>
                            rename World => w22
                            obtain ⟨rfl, hA22, hh22⟩ := hcut
                            have y22 : w22.cell? ⟨gw, j, none⟩ = some (.int .u8 ((byte9 (Ds.H j)).toNat : Int)) := by rw [cell_heap hh22]; exact y21
                            have o22 : w22.cell? ⟨go, j, none⟩ = some (.bool (ov j)) := by rw [cell_heap hh22]; exact o21
                            have hAw2 : Adds w18 w22 := hAw.trans hA22
                            clear x20' y21 n21 o21 x21 hAw hA22 hh22
                            rcases HV.out.1 with hv0 | hv2
                            · obtain ⟨p3, h3, hx3, hd3⟩ := HV.out.2.1 hv0
                              subst hv0
                              subst hx3
                              cases hvj : ov j with
                              | true =>
                                as_aux_lemma =>
                                rw [hvj] at o22
                                clear hvj
                                go_wp2
                                go_roundw
                                case rel => exact ⟨j + 1, by omega, by go_num, hAw2⟩
                                case measure => simp [intOf]; omega
                              | false =>
                                as_aux_lemma =>
                                rw [hvj] at o22
                                have MRs := hid (read_ok w0.heap.size p3 h3 _ (D.lost ks torn at_) (j : Int) w22 (hd3.adds hAw2) (show 0 ≤ 1000 by decide) (show 0 ≤ (j : Int) ∧ (j : Int) < D.size by rw [HDS3.out.1]; omega) (show (-1 : Int) ≠ 0 by decide))
                                have HL3 := hid ((HF.out j hlt).2.2 hvj)
                                have HL4 := hid (hd3.good (j : Int))
                                clear hvj hd3
                                go_upto_region 52 with (go_at_call 23; refine MRs.out.mono ?_; intro e w23 hr; obtain ⟨g23, cx23, rfl, hcx, _, _, hA23⟩ := hr.reads; have x23 : w23.cell? ⟨g23, 9, none⟩ = some (.int .u8 ((byte9 (Ds.H j)).toNat : Int)) := hcx 9 _ (by show (hasOf _ [] (j : Int))[9]? = _; rw [hasOf_none (by simp), HL3.out]; have := HL4.out; rw [HL3.out] at this; exact byte9_get this); clear hcx hr)
                                have y23 : w23.cell? ⟨gw, j, none⟩ = some (.int .u8 ((byte9 (Ds.H j)).toNat : Int)) := below_adds hA23 y22
                                clear y22 o22 MRs
                                go_cut [285] (fun t w' => t = .bool false ∧ Adds w23 w')
                                case first =>
                                  go_quiet (fail)
                                  go_wp2
                                  go_meet
                                  case rel => exact ⟨rfl, (adds_drewN w23 nq).1⟩
                                case rest =>
                                  rename World => w24
                                  obtain ⟨rfl, hA24⟩ := hcut
                                  clear x23 y23
                                  go_wp2
                                  go_roundw
                                  case rel => exact ⟨j + 1, by omega, by go_num, (hAw2.trans hA23).trans hA24⟩
                                  case measure => simp [intOf]; omega
                            · as_aux_lemma =>
                              subst hv2
                              go_wp2
                              go_roundw
                              case rel => exact ⟨j + 1, by omega, by go_num, hAw2⟩
                              case measure => simp [intOf]; omega
                        · obtain rfl : j = 6 := by omega
                          go_wp2
                          go_ret
                          exact ⟨rfl, hA0.trans (HG.out.2.2.2.trans hAj)⟩

end Synced
end Go.Proofs.Ytjjknckcodhnmaa
