/- Texts put together: DHold, DHas. -/
import Derived.Test.YtjlennpoaefllaaGreatDoorQ13
import Derived.Deep.WholeRow
import Derived.Deep.RegionHeld3
/- hold: a sector is laid down. -/
namespace Go.Proofs.YtjlennpoaefllaaGreatDoor
open Go.RowKit

set_option maxRecDepth 100000 in
theorem zero74 (w : World) : (zeroValue 186).run Tryz.prog w = .ok (.agg (S zeros).toArray) w := by kernel_rfl
set_option maxRecDepth 100000 in
theorem IsDisk.ne {w : World} {B p hb : Nat} {wv : Value} {D : dSt} (h : IsDisk w B p hb wv D) : p ≠ hb ∧ ∀ k, wv.ownBlock = some k → k ≠ hb ∧ k ≠ p := by
  obtain ⟨es, clock, h1, _⟩ := h.held
  refine ⟨fun e => ?_, fun k hk => ⟨fun e => ?_, fun e => ?_⟩⟩
  · have := h.box; rw [e, h1] at this; cases this
  · subst e
    rcases h.wait.2 with ⟨rfl, _⟩ | ⟨g, cap, cur, rfl, _, hgg, _⟩
    · cases hk
    · obtain rfl : g = k := by simpa [Value.ownBlock] using hk
      rw [h1] at hgg; cases hgg
  · subst e
    rcases h.wait.2 with ⟨rfl, _⟩ | ⟨g, cap, cur, rfl, _, hgg, _⟩
    · cases hk
    · obtain rfl : g = k := by simpa [Value.ownBlock] using hk
      have := h.box; rw [hgg] at this
      simp at this

set_option maxRecDepth 100000 in
theorem upd_len {H : Int → List UInt8} (h : ∀ k, (H k).length = 256) (i : Int) {bs : List UInt8} (hl : bs.length = 256) : ∀ k, (upd H i bs k).length = 256 := by
  intro k; unfold upd; split
  · exact hl
  · exact h k

set_option maxRecDepth 100000 in
/-- A disk whose map has turned. -/
theorem IsDisk.turned {w : World} {B p hb : Nat} {wv : Value} {D : dSt} (h : IsDisk w B p hb wv D) (i : Int) (bs : List UInt8) (hl : bs.length = 256) (es : Array MapEntry) (clock : Nat) (hm : MapIs es.toList (upd D.H i bs)) :
    IsDisk (World.put w hb (.map es clock)) B p hb wv { D with H := upd D.H i bs } := by
  obtain ⟨es0, clock0, h1, _⟩ := h.held
  have hne := h.ne
  refine ⟨?_, ⟨es, clock, heap_put_same h1, hm⟩, ⟨h.wait.1, ?_⟩, upd_len h.good i hl, h.goodW, h.low⟩
  · rw [heap_put_other hne.1]; exact h.box
  · rcases h.wait.2 with hn | ⟨g, cap, cur, rfl, hb', hgg, rest⟩
    · exact .inl hn
    · refine .inr ⟨g, cap, cur, rfl, hb', ?_, rest⟩
      rw [heap_put_other (hne.2 g rfl).1]; exact hgg

end Go.Proofs.YtjlennpoaefllaaGreatDoor

/- has: what a sector has. -/
namespace Go.Proofs.YtjlennpoaefllaaGreatDoor
open Go.RowKit

/-- What sector i has: the last write to it that waits, else what it holds. -/
def hasOf (H : Int → List UInt8) (W : List (Int × List UInt8)) (i : Int) : List UInt8 := W.foldl (fun acc x => if x.1 = i then x.2 else acc) (H i)

theorem fold_skip (i : Int) : ∀ (W : List (Int × List UInt8)) (z : List UInt8), (∀ x ∈ W, x.1 ≠ i) → W.foldl (fun acc x => if x.1 = i then x.2 else acc) z = z
  | [], _, _ => rfl
  | x :: W, z, h => by
    rw [List.foldl_cons, if_neg (h x List.mem_cons_self)]
    exact fold_skip i W z (fun y hy => h y (List.mem_cons_of_mem _ hy))
theorem hasOf_none {H : Int → List UInt8} {W : List (Int × List UInt8)} {i : Int} (h : ∀ x ∈ W, x.1 ≠ i) : hasOf H W i = H i := fold_skip i W _ h
set_option maxRecDepth 100000 in
theorem hasOf_found {H : Int → List UInt8} {W : List (Int × List UInt8)} {i : Int} (k : Nat) (hk : k < W.length) (he : W[k].1 = i) (h : ∀ j (hj : j < W.length), k < j → W[j].1 ≠ i) : hasOf H W i = W[k].2 := by
  have hs : W = W.take k ++ W[k] :: W.drop (k + 1) := by rw [← List.drop_eq_getElem_cons hk, List.take_append_drop]
  unfold hasOf
  conv => lhs; rw [hs]
  rw [List.foldl_append, List.foldl_cons, if_pos he]
  refine fold_skip i _ _ (fun x hx => ?_)
  obtain ⟨j, hj, rfl⟩ := List.mem_iff_getElem.1 hx
  rw [List.getElem_drop]
  exact h (k + 1 + j) (by simp at hj; omega) (by omega)

set_option maxRecDepth 100000 in
theorem length_wcells (x : Int × List UInt8) (h : x.2.length = 256) : (wcells x).length = 257 := by simp [wcells, S, h]
/-- The cells of the k-th write. -/
theorem flat_get : ∀ (W : List (Int × List UInt8)), (∀ x ∈ W, x.2.length = 256) → ∀ (k : Nat) (hk : k < W.length) (j : Nat), j < 257 → (dflat W)[k * 257 + j]? = (wcells W[k])[j]?
  | [], _, k, hk, _, _ => absurd hk (by simp)
  | x :: W, h, 0, _, j, hj => by
    simp only [dflat, List.flatMap_cons, Nat.zero_mul, Nat.zero_add, List.getElem_cons_zero]
    rw [List.getElem?_append_left (by rw [length_wcells x (h x List.mem_cons_self)]; exact hj)]
  | x :: W, h, k + 1, hk, j, hj => by
    have ih := flat_get W (fun y hy => h y (List.mem_cons_of_mem _ hy)) k (by simpa using hk) j hj
    simp only [dflat, List.flatMap_cons] at ih ⊢
    rw [List.getElem?_append_right (by rw [length_wcells x (h x List.mem_cons_self)]; omega), length_wcells x (h x List.mem_cons_self), show (k + 1) * 257 + j - 257 = k * 257 + j by omega, ih, List.getElem_cons_succ]

set_option maxRecDepth 100000 in
/-- The slice of the waiting writes, and where its cells lie. -/
theorem IsDisk.slice {w : World} {B p hb : Nat} {wv : Value} {D : dSt} (h : IsDisk w B p hb wv D) : ∃ ao cap, wv = .slice ao D.W.length cap ∧ D.W.length ≤ cap ∧
    (0 < D.W.length → ∃ g, ao = some ⟨g, 0, none⟩ ∧ g < w.heap.size ∧ (∀ k (hk : k < D.W.length), w.cell? ⟨g, k * 257, none⟩ = some (.int .i64 D.W[k].1)) ∧ (∀ k (hk : k < D.W.length), w.rangeAt g (k * 257 + 1) (S D.W[k].2)) ∧ (∀ k (hk : k < D.W.length), w.rangeAt g (k * 257) (wcells D.W[k]))) := by
  have hcell : ∀ g cap, wv = .slice (some ⟨g, 0, none⟩) D.W.length cap → ∀ k (hk : k < D.W.length) j, j < 257 → w.cell? ⟨g, k * 257 + j, none⟩ = (wcells D.W[k])[j]? := by
    intro g cap e k hk j hj
    have hw := h.wait
    rw [e] at hw
    rw [hw.cellAt (k * 257 + j) (by have := Nat.mul_le_mul_right 257 (show k + 1 ≤ D.W.length by omega); omega), flat_get D.W h.goodW k hk j hj]
  rcases h.wait.2 with ⟨e, hn⟩ | ⟨g, cap, cur, e, _, hgg, hnc, _⟩
  · exact ⟨none, 0, by rw [e, hn], by omega, fun h0 => by omega⟩
  · refine ⟨some ⟨g, 0, none⟩, cap, e, hnc, fun _ => ⟨g, rfl, (Array.getElem?_eq_some_iff.1 hgg).1, fun k hk => ?_, fun k hk => ?_, fun k hk => ?_⟩⟩
    · have h0 := hcell g cap e k hk 0 (by omega)
      rw [Nat.add_zero] at h0; rw [h0]; rfl
    · intro j v hv
      have hj : j < 256 := by
        have := (List.getElem?_eq_some_iff.1 hv).1
        rw [length_S, h.goodW _ (List.getElem_mem hk)] at this; exact this
      rw [Nat.add_assoc, hcell g cap e k hk (1 + j) (by omega), Nat.add_comm 1 j]
      simpa [wcells] using hv
    · intro j v hv
      have hj : j < 257 := by
        have := (List.getElem?_eq_some_iff.1 hv).1
        rw [length_wcells _ (h.goodW _ (List.getElem_mem hk))] at this; exact this
      rw [hcell g cap e k hk j hj]; exact hv

/-- What has tells. -/
def PHas (w : World) (bs : List UInt8) (e : Ending) (w' : World) : Prop := e = .returned (.agg (S bs).toArray) ∧ Adds w w'

set_option maxRecDepth 100000 in
set_option maxHeartbeats 1000000 in
theorem has_any (B p hb : Nat) (wv : Value) (D : dSt) (i : Int) (w : World) (hd : IsDisk w B p hb wv D) (hl : D.W.length ≤ 1000) :
    Calls Tryz.prog 169 #[.pointer (some ⟨p, 0, none⟩), .int .i64 i] w (PHas w (hasOf D.H D.W i)) := by
  have hzv := zero74
  have hA : Adds w (w.alloc (.cells (S zeros).toArray 186)) := (Touch.refl _ w).alloc _
  have hg : (w.alloc (.cells (S zeros).toArray 186)).heap[w.heap.size]? = some (.cells (S zeros).toArray 186 (0, 0)) := heap_alloc_new w _
  generalize hw1 : w.alloc (.cells (S zeros).toArray 186) = w1 at hA hg
  have hd1 : IsDisk w1 B p hb wv D := hd.adds hA
  obtain ⟨ao, cap, rfl, hcap, hrest⟩ := hd1.slice
  have c1 : w1.cell? ⟨p, 1, none⟩ = some (.map (some hb)) := cellOf hd1.box 1
  have c2 : w1.cell? ⟨p, 2, none⟩ = some (.slice ao D.W.length cap) := cellOf hd1.box 2
  have HR := hid (hrest)
  have HG := hid (hg)
  clear hrest hg
  go_enter Tryz.func169, Tryz.ntmps169
  go_wp2
  go_loop [5] (fun t => ∃ k : Nat, k ≤ D.W.length ∧ t = .int .i64 ((k : Int) - 1) ∧ Hid (∀ j (hj : j < D.W.length), k ≤ j → D.W[j].1 ≠ i)) (fun t => (intOf t + 1).toNat)
  case atStart => exact ⟨D.W.length, Nat.le_refl _, rfl, fun j hj h => by omega⟩
  case round =>
    obtain ⟨k, hk, rfl, hno⟩ := hrel
    by_cases h0 : k = 0
    · subst h0
      have hall : ∀ x ∈ D.W, x.1 ≠ i := fun x hx => by
        obtain ⟨j, hj, rfl⟩ := List.mem_iff_getElem.1 hx
        exact hno j hj (Nat.zero_le _)
      have HALL := hid (hall)
      clear hall
      obtain ⟨es, clock, hmb, hmi⟩ := hd1.held
      have hlk := run_lookup_sec (P := Tryz.prog) (w := w1) Tryz.underlying78 Tryz.underlying3 (zero74 w1) hmb hmi i
      have hi74 : Hid ((Tryz.prog.info? 186).map (·.size) = some (S (D.H i)).toArray.size) := show _ = _ by rw [info74, List.size_toArray, length_S, hd1.good]
      have ho74 : Hid ((S zeros).toArray.size = (S (D.H i)).toArray.size) := show _ = _ by rw [List.size_toArray, length_S, length_zeros, List.size_toArray, length_S, hd1.good]
      go_wp2_with (refine wpList_store_row rfl 186 _ _ rfl w.heap.size (S (D.H i)).toArray rfl rfl 186 (S zeros).toArray HG.out hi74.out ho74.out (all_oneCell_toArray (one_S _)) ?_)
      refine bodyPost_ret (v := .agg (S (D.H i)).toArray) (results_cell_row rfl _ _ w.heap.size 186 _ (0, 0) _ rfl (setRow_heap w1 w.heap.size _ _ 186 _ HG.out) Tryz.underlying186 rfl hi74.out) rfl ?_
      refine ⟨by rw [hasOf_none HALL.out], ?_⟩
      exact Touch.setRow (T := fun _ => False) hA (fun h => absurd h (Nat.lt_irrefl _)) _
    · obtain ⟨g, rfl, _, hc, hr, _⟩ := HR.out (by omega)
      have hkl : k - 1 < D.W.length := by omega
      have hck := hc (k - 1) hkl
      have hrk := hr (k - 1) hkl
      have HRK := hid (hrk)
      clear hc hr hrk HR hd
      have hpos : ¬ ((k : Int) - 1 < 0) := by omega
      by_cases hi : D.W[k - 1].1 = i
      · have hbq : (D.W[k - 1].1 == i) = true := by simp [hi]
        have hfin : Hid (hasOf D.H D.W i = D.W[k - 1].2) := hasOf_found (k - 1) hkl hi (fun j hj hlt => hno.out j hj (by omega))
        clear hi
        have hi74 : Hid ((Tryz.prog.info? 186).map (·.size) = some (S D.W[k - 1].2).length) := show _ = _ by rw [info74, length_S, hd1.goodW _ (List.getElem_mem hkl)]
        have hi74a : Hid ((Tryz.prog.info? 186).map (·.size) = some (S D.W[k - 1].2).toArray.size) := show _ = _ by rw [info74, List.size_toArray, length_S, hd1.goodW _ (List.getElem_mem hkl)]
        have ho74 : Hid ((S zeros).toArray.size = (S D.W[k - 1].2).toArray.size) := show _ = _ by rw [List.size_toArray, length_S, length_zeros, List.size_toArray, length_S, hd1.goodW _ (List.getElem_mem hkl)]
        go_wp2_with (first
          | (refine wpList_load_mid rfl 186 _ rfl g ((k - 1) * 257 + 1) rfl (S D.W[k - 1].2) _ HRK.out Tryz.underlying186 rfl hi74.out ?_)
          | (refine wpList_store_row rfl 186 _ _ rfl w.heap.size (S D.W[k - 1].2).toArray rfl rfl 186 (S zeros).toArray HG.out hi74a.out ho74.out (all_oneCell_toArray (one_S _)) ?_))
        refine bodyPost_ret (v := .agg (S D.W[k - 1].2).toArray) (results_cell_row rfl _ _ w.heap.size 186 _ (0, 0) _ rfl (setRow_heap w1 w.heap.size _ _ 186 _ HG.out) Tryz.underlying186 rfl hi74a.out) rfl ?_
        refine ⟨by rw [hfin.out], ?_⟩
        exact Touch.setRow (T := fun _ => False) hA (fun h => absurd h (Nat.lt_irrefl _)) _
      · have hbq : (D.W[k - 1].1 == i) = false := by simp [hi]
        have hno' : Hid (∀ j (hj : j < D.W.length), k - 1 ≤ j → D.W[j].1 ≠ i) := fun j hj hle => by
          by_cases e : j = k - 1
          · subst e; exact hi
          · exact hno.out j hj (by omega)
        clear hi
        go_wp2
        exact ⟨⟨k - 1, by omega, by rw [show ((k - 1 : Nat) : Int) = (k : Int) - 1 by omega], hno'⟩, by simp only [intOf]; omega⟩

end Go.Proofs.YtjlennpoaefllaaGreatDoor
