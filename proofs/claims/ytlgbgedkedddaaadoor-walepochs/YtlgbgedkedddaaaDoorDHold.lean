/- hold: a sector is laid down. -/
import Derived.Test.YtlgbgedkedddaaaDoorDDisk
import Derived.Deep.WholeRow
import Derived.Deep.RegionHeld3
namespace Go.Proofs.YtlgbgedkedddaaaDoor
open Go.RowKit

set_option maxRecDepth 100000 in
theorem build74 (w : World) : (Instr.build 73 #[]).run Tryd.prog w = .ok (.agg (S zeros).toArray) w := by kernel_rfl
set_option maxRecDepth 100000 in
theorem zero74 (w : World) : (zeroValue 73).run Tryd.prog w = .ok (.agg (S zeros).toArray) w := by kernel_rfl
theorem load74_new (w : World) (bs : List UInt8) (h : bs.length = 256) : (Instr.loadAt 73 (.pointer (some ⟨w.heap.size, 0, none⟩))).run Tryd.prog (w.alloc (.cells (S bs).toArray 73)) = .ok (.agg (S bs).toArray) (w.alloc (.cells (S bs).toArray 73)) :=
  run_loadAt_new w 73 _ 256 5 Tryd.underlying73 (by rw [info74]; simp [S, h])
theorem eql74 (w : World) (a b : List UInt8) (ha : a.length = 256) (hb : b.length = 256) : (Op.equalIn 10000 73 (.agg (S a).toArray) (.agg (S b).toArray)).run Tryd.prog w = .ok (a == b) w :=
  run_equal_bytes 9998 Tryd.underlying73 Tryd.underlying5 info5 a b ha hb

set_option maxRecDepth 100000 in
theorem IsDisk.ne {w : World} {B p hb : Nat} {wv : Value} {D : dSt} (h : IsDisk w B p hb wv D) : p ≠ hb ∧ ∀ k, wv.ownBlock = some k → k ≠ hb ∧ k ≠ p := by
  obtain ⟨es, clock, h1, _⟩ := h.held
  refine ⟨fun e => ?_, fun k hk => ⟨fun e => ?_, fun e => ?_⟩⟩
  · have := h.box; rw [e, h1] at this; cases this
  · subst e
    rcases h.wait.2 with ⟨rfl, _⟩ | ⟨g, cap, cur, rfl, _, hgg, _⟩
    · cases hk
    · obtain rfl : g = k := by simpa [Value.ownBlock] using hk
      rw [h1] at hgg; cases hgg
  · subst e
    rcases h.wait.2 with ⟨rfl, _⟩ | ⟨g, cap, cur, rfl, _, hgg, _⟩
    · cases hk
    · obtain rfl : g = k := by simpa [Value.ownBlock] using hk
      have := h.box; rw [hgg] at this
      simp at this

set_option maxRecDepth 100000 in
theorem upd_len {H : Int → List UInt8} (h : ∀ k, (H k).length = 256) (i : Int) {bs : List UInt8} (hl : bs.length = 256) : ∀ k, (upd H i bs k).length = 256 := by
  intro k; unfold upd; split
  · exact hl
  · exact h k

set_option maxRecDepth 100000 in
/-- A disk whose map has turned. -/
theorem IsDisk.turned {w : World} {B p hb : Nat} {wv : Value} {D : dSt} (h : IsDisk w B p hb wv D) (i : Int) (bs : List UInt8) (hl : bs.length = 256) (es : Array MapEntry) (clock : Nat) (hm : MapIs es.toList (upd D.H i bs)) :
    IsDisk (World.put w hb (.map es clock)) B p hb wv { D with H := upd D.H i bs } := by
  obtain ⟨es0, clock0, h1, _⟩ := h.held
  have hne := h.ne
  refine ⟨?_, ⟨es, clock, heap_put_same h1, hm⟩, ⟨h.wait.1, ?_⟩, upd_len h.good i hl, h.goodW, h.low⟩
  · rw [heap_put_other hne.1]; exact h.box
  · rcases h.wait.2 with hn | ⟨g, cap, cur, rfl, hb', hgg, rest⟩
    · exact .inl hn
    · refine .inr ⟨g, cap, cur, rfl, hb', ?_, rest⟩
      rw [heap_put_other (hne.2 g rfl).1]; exact hgg

set_option maxRecDepth 100000 in
set_option maxHeartbeats 1000000 in
theorem hold_any (B p hb : Nat) (wv : Value) (D : dSt) (i : Int) (bs : List UInt8) (w : World) (hd : IsDisk w B p hb wv D) (hl : bs.length = 256) :
    Calls Tryd.prog 39 #[.pointer (some ⟨p, 0, none⟩), .int .i64 i, .agg (S bs).toArray] w fun e w' => e = .returned (.tuple #[]) ∧ IsDisk w' B p hb wv { D with H := upd D.H i bs } ∧ Touch (fun k => k = hb) w w' := by
  have hzv := zero74
  have hg : (w.alloc (.cells (S bs).toArray 73)).heap[w.heap.size]? = some (.cells (S bs).toArray 73 (0, 0)) := heap_alloc_new w _
  have HG : Hid ((w.alloc (.cells (S bs).toArray 73)).heap[w.heap.size]? = some (.cells (S bs).toArray 73 (0, 0))) := hg
  clear hg
  have hsz : (Tryd.prog.info? 73).map (·.size) = some (S bs).toArray.size := by rw [info74]; simp [S, hl]
  have HS : Hid ((Tryd.prog.info? 73).map (·.size) = some (S bs).toArray.size) := hsz
  clear hsz
  have heq := fun w => eql74 w bs zeros hl length_zeros
  have c1 : w.cell? ⟨p, 1, none⟩ = some (.map (some hb)) := cellOf hd.box 1
  have hplt : p < w.heap.size := (Array.getElem?_eq_some_iff.1 hd.box).1
  have hd1 : IsDisk (w.alloc (.cells (S bs).toArray 73)) B p hb wv D := hd.adds ((Touch.refl _ w).alloc _)
  by_cases hz : bs = zeros
  · have hz' : (bs == zeros) = true := by simp [hz]
    have HZ : Hid (bs = zeros) := hz
    clear hz
    go_enter Tryd.func39, Tryd.ntmps39
    obtain ⟨es, clock, hmb, hmi0⟩ := hd1.held
    obtain ⟨es', clock', hrun, hmi⟩ := run_delete_sec (P := Tryd.prog) Tryd.underlying24 Tryd.underlying3 hmb hmi0 i 0
    go_wp2_with (refine wpList_load_row rfl 73 _ rfl w.heap.size rfl 73 (S bs).toArray (0, 0) _ HG.out Tryd.underlying73 rfl HS.out ?_)
    refine bodyPost_ret (v := .tuple #[]) (results_none rfl _ _ _) rfl ?_
    refine ⟨rfl, ?_, Touch.put (T := fun k => k = hb) ((Touch.refl _ w).alloc _) (fun _ => rfl) _⟩
    exact hd1.turned i bs hl es' clock' (by rw [HZ.out]; exact hmi)
  · have hz' : (bs == zeros) = false := by simp [hz]
    have HZ : Hid (¬ bs = zeros) := hz
    clear hz
    go_enter Tryd.func39, Tryd.ntmps39
    go_wp2_with (refine wpList_load_row rfl 73 _ rfl w.heap.size rfl 73 (S bs).toArray (0, 0) _ HG.out Tryd.underlying73 rfl HS.out ?_)
    have hu74 := Tryd.underlying73
    have hr0 : (w.alloc (.cells (S bs).toArray 73)).rangeAt w.heap.size 0 (S bs) := by
      intro j v hv
      rw [cellOf HG.out]; simpa using hv
    have hi74 : (Tryd.prog.info? 73).map (·.size) = some (S bs).length := by rw [info74, length_S, hl]
    obtain ⟨es, clock, hmb, hmi⟩ := hd1.held
    obtain ⟨es', clock', hrun, hmi'⟩ := run_mapUpdate_sec (P := Tryd.prog) (w := (w.alloc (.cells (S bs).toArray 73)).drew) Tryd.underlying24 Tryd.underlying3 hmb hmi i bs
    have hne := hd1.ne
    have hwlt : hb < w.heap.size := by
      obtain ⟨es0, cl0, hb0, _⟩ := hd.held
      exact (Array.getElem?_eq_some_iff.1 hb0).1
    have K1 : (w.alloc (.cells (S bs).toArray 73)).drew.cell? ⟨p, 1, none⟩ = some (.map (some hb)) ∧ (w.alloc (.cells (S bs).toArray 73)).drew.rangeAt w.heap.size 0 (S bs) := ⟨cellOf hd1.box 1, hr0⟩
    have K2 : (World.put (w.alloc (.cells (S bs).toArray 73)).drew hb (.map es' clock')).cell? ⟨p, 1, none⟩ = some (.map (some hb)) ∧ (World.put (w.alloc (.cells (S bs).toArray 73)).drew hb (.map es' clock')).rangeAt w.heap.size 0 (S bs) := by
      refine ⟨?_, fun j v hv => ?_⟩
      · rw [World.cell?_of_block (w := (w.alloc (.cells (S bs).toArray 73)).drew) (heap_put_other hne.1)]; exact K1.1
      · rw [World.cell?_of_block (w := (w.alloc (.cells (S bs).toArray 73)).drew) (heap_put_other (Nat.ne_of_gt hwlt))]; exact K1.2 j v hv
    have HK1 := hid (K1)
    have HK2 := hid (K2)
    clear K1 K2 hr0
    go_region_held3 (fun w' => w'.cell? ⟨p, 1, none⟩ = some (.map (some hb)) ∧ w'.rangeAt w.heap.size 0 (S bs)) (first | exact HK1.out | exact HK2.out) (fail)
    go_wp2
    go_end0
    refine ⟨rfl, ?_, Touch.put (T := fun k => k = hb) ((Touch.refl _ w).alloc _).drew (fun _ => rfl) _⟩
    exact IsDisk.turned (w := (w.alloc (.cells (S bs).toArray 73)).drew) (hd1.adds (Touch.refl _ _).drew) i bs hl es' clock' hmi'

end Go.Proofs.YtlgbgedkedddaaaDoor
