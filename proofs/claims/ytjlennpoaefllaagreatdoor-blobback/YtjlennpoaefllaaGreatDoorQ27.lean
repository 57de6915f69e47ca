/- Texts put together: DRef, DRef2, DRef3, DRef4, DSpFacts, DRef5, DSynFacts, DRef6, DRO. -/
import Derived.Test.YtjlennpoaefllaaGreatDoorQ16
import Derived.Laws.IdiomStrings
import Derived.Deep.QuietTactic
import Derived.BigQuiet
import Derived.Maps.AppendAt
import Derived.Deep.RegionHeld3
import Derived.Laws.Concat
import Derived.Laws.Slices
import Derived.Test.YtjlennpoaefllaaGreatDoorQ15
import Derived.Deep.DeepCutAuto
import Derived.Deep.LoopGhost
import Derived.Deep.Light
/- The reference's disk in memory, and its small functions: Zero, step, New, Cut. -/
namespace Go.Proofs.YtjlennpoaefllaaGreatDoor
open Go.RowKit

/-- What is held, as cells. -/
def strs (H : Int → List UInt8) (n : Nat) : List Value := (List.range n).map fun (i : Nat) => Str (H (i : Int))
/-- A waiting write of the reference, as cells. -/
def rcells (x : Int × List UInt8) : List Value := [.int .i64 x.1, Str x.2]
def rflat (W : List (Int × List UInt8)) : List Value := W.flatMap rcells

set_option maxRecDepth 100000 in
theorem strs_get (H : Int → List UInt8) (n i : Nat) (h : i < n) : (strs H n)[i]? = some (Str (H (i : Int))) := by simp [strs, h]
/-- At p lies a disk of the reference in the state D. -/
structure IsRef (w : World) (B p : Nat) (hv wv : Value) (D : dSt) : Prop where
  box : w.heap[p]? = some (.cells #[hv, wv, .int .i64 D.steps, .int .i64 D.left] 84 (0, 0))
  held : w.ownsRow B 9 1 hv D.size.toNat (strs D.H D.size.toNat)
  wait : w.ownsRow B 173 2 wv D.W.length (rflat D.W)
  places : ∀ x ∈ D.W, 0 ≤ x.1 ∧ x.1 < D.size
  low : B ≤ p
  size : 0 < D.size ∧ D.size ≤ 4096
  good : ∀ k, (D.H k).length = 256
  goodW : ∀ x ∈ D.W, x.2.length = 256

set_option maxRecDepth 100000 in
theorem own_kept {w w' : World} {T : Nat → Prop} {B : Nat} {e : TypeId} {size : Nat} {v : Value} {n : Nat} {xs : List Value} (h : w.ownsRow B e size v n xs) (ht : Touch T w w') (hn : ∀ k, v.ownBlock = some k → ¬ T k) : w'.ownsRow B e size v n xs := by
  refine ⟨h.1, ?_⟩
  rcases h.2 with hh | ⟨g, cap, cur, rfl, hb', hgg, rest⟩
  · exact .inl hh
  · refine .inr ⟨g, cap, cur, rfl, hb', ?_, rest⟩
    rw [ht.block g (Array.getElem?_eq_some_iff.1 hgg).1 (hn g rfl)]; exact hgg
set_option maxRecDepth 100000 in
theorem IsRef.kept {w w' : World} {B p : Nat} {hv wv : Value} {D : dSt} (h : IsRef w B p hv wv D) {T : Nat → Prop} (ht : Touch T w w') (hp : ¬ T p) (hh : ∀ k, hv.ownBlock = some k → ¬ T k) (hw : ∀ k, wv.ownBlock = some k → ¬ T k) : IsRef w' B p hv wv D := by
  refine ⟨?_, own_kept h.held ht hh, own_kept h.wait ht hw, h.places, h.low, h.size, h.good, h.goodW⟩
  rw [ht.block p (Array.getElem?_eq_some_iff.1 h.box).1 hp]; exact h.box
theorem IsRef.adds {w w' : World} {B p : Nat} {hv wv : Value} {D : dSt} (h : IsRef w B p hv wv D) (ht : Adds w w') : IsRef w' B p hv wv D := h.kept ht id (fun _ _ => id) (fun _ _ => id)
set_option maxRecDepth 100000 in
/-- Its blocks are apart. -/
theorem IsRef.ne {w : World} {B p : Nat} {hv wv : Value} {D : dSt} (h : IsRef w B p hv wv D) : (∀ k, hv.ownBlock = some k → k ≠ p) ∧ (∀ k, wv.ownBlock = some k → k ≠ p) ∧ (∀ k j, hv.ownBlock = some k → wv.ownBlock = some j → k ≠ j) := by
  refine ⟨fun k hk e => ?_, fun k hk e => ?_, fun k j hk hj e => ?_⟩
  · subst e; obtain ⟨c, hc⟩ := own_type h.held hk; rw [h.box] at hc; simp at hc
  · subst e; obtain ⟨c, hc⟩ := own_type h.wait hk; rw [h.box] at hc; simp at hc
  · subst e; obtain ⟨c, hc⟩ := own_type h.held hk; obtain ⟨c', hc'⟩ := own_type h.wait hj; rw [hc] at hc'; simp at hc'
set_option maxRecDepth 100000 in
/-- A block of another kind is none of its. -/
theorem IsRef.apart {w : World} {B p : Nat} {hv wv : Value} {D : dSt} (h : IsRef w B p hv wv D) {k : Nat} {o : Obj} (hk : w.heap[k]? = some o) (ho : ∀ c, o ≠ .cells c 84 (0, 0) ∧ o ≠ .cells c 9 (0, 0) ∧ o ≠ .cells c 173 (0, 0)) : k ≠ p ∧ hv.ownBlock ≠ some k ∧ wv.ownBlock ≠ some k := by
  refine ⟨fun e => ?_, fun e => ?_, fun e => ?_⟩
  · subst e; rw [h.box] at hk; exact (ho _).1 (by simpa using hk.symm)
  · obtain ⟨c, hc⟩ := own_type h.held e; rw [hc] at hk; exact (ho _).2.1 (by simpa using hk.symm)
  · obtain ⟨c, hc⟩ := own_type h.wait e; rw [hc] at hk; exact (ho _).2.2 (by simpa using hk.symm)
set_option maxRecDepth 100000 in
/-- The slice of what is held, and where its cells lie. -/
theorem IsRef.heldAt {w : World} {B p : Nat} {hv wv : Value} {D : dSt} (h : IsRef w B p hv wv D) : ∃ g cap, hv = .slice (some ⟨g, 0, none⟩) D.size.toNat cap ∧ D.size.toNat ≤ cap ∧ g < w.heap.size ∧
    (∀ i, i < D.size.toNat → w.cell? ⟨g, i, none⟩ = some (Str (D.H (i : Int)))) ∧ (∀ i, w.frozen? ⟨g, i, none⟩ = false) := by
  have hs := h.size
  rcases h.held.2 with ⟨e, hn⟩ | ⟨g, cap, cur, e, _, hgg, hnc, _⟩
  · omega
  · have hh := h.held
    rw [e] at hh
    refine ⟨g, cap, e, hnc, (Array.getElem?_eq_some_iff.1 hgg).1, fun i hi => ?_, fun i => hh.frozenAt i⟩
    rw [hh.cellAt i (by omega), strs_get _ _ _ hi]
set_option maxRecDepth 100000 in
theorem conv_bytes (w : World) (g cap n : Nat) (bs : List UInt8) (hn : bs.length = n) (h : ∀ j b, bs[j]? = some b → w.cell? ⟨g, j, none⟩ = some (.int .u8 (b.toNat : Int))) : (convert 43 9 (.slice (some ⟨g, 0, none⟩) n cap)).run Tryz.prog w = .ok (Str bs) w := by
  subst hn
  refine run_convert_bytes_back w 43 9 5 ⟨g, 0, none⟩ cap bs Tryz.underlying43 Tryz.underlying5 Tryz.underlying9 (fun j hj => ?_)
  rw [Addr.add_mid, Nat.zero_add]
  exact h j _ (by rw [List.getElem?_eq_getElem hj])

set_option maxRecDepth 100000 in
set_option maxHeartbeats 400000 in
theorem zero_any (w : World) : Calls Tryz.prog 33 #[] w fun e w' => e = .returned (Str zeros) ∧ Adds w w' := by
  have hmk := make256
  have hcv := conv_bytes (w.alloc (.cells (S zeros).toArray 5)) w.heap.size 256 256 zeros length_zeros (fun j b hb => by rw [cellOf (heap_alloc_new w _)]; simp only [List.getElem?_toArray, S_get, hb]; rfl)
  go_enter Tryz.func33, Tryz.ntmps33
  go_wp2
  go_ret
  exact ⟨rfl, (Touch.refl _ w).alloc _⟩

end Go.Proofs.YtjlennpoaefllaaGreatDoor

/- The reference's New and Read. -/
namespace Go.Proofs.YtjlennpoaefllaaGreatDoor
open Go.RowKit

set_option maxRecDepth 100000 in
theorem info9all : ∃ i, Tryz.prog.info? 9 = some i ∧ i.zero = some (Str []) ∧ i.size = 1 ∧ i.bytes = 16 := by
  have h : (Tryz.prog.info? 9).map (fun i => (i.zero, i.size, i.bytes)) = some (some (Str []), 1, 16) := by kernel_rfl
  cases hq : Tryz.prog.info? 9 with
  | none => rw [hq] at h; cases h
  | some i =>
    rw [hq] at h
    simp only [Option.map_some, Option.some.injEq, Prod.mk.injEq] at h
    exact ⟨i, rfl, h.1, h.2.1, h.2.2⟩

theorem one_str (bs : List UInt8) : ∀ u ∈ [Str bs], u.oneCell' = true := fun u hu => by obtain rfl := List.mem_singleton.1 hu; rfl

set_option maxRecDepth 100000 in
theorem own_some {w : World} {B : Nat} {e : TypeId} {size : Nat} {v : Value} {n : Nat} {xs : List Value} (h : w.ownsRow B e size v (n + 1) xs) : ∃ g cap, v = .slice (some ⟨g, 0, none⟩) (n + 1) cap := by
  rcases h.2 with ⟨_, hn⟩ | ⟨g, cap, cur, rfl, _⟩
  · omega
  · exact ⟨g, cap, rfl⟩

set_option maxRecDepth 100000 in
theorem own_mono {w : World} {B C : Nat} {e : TypeId} {size : Nat} {v : Value} {n : Nat} {xs : List Value} (h : w.ownsRow B e size v n xs) (hb : C ≤ B) : w.ownsRow C e size v n xs := by
  refine ⟨h.1, ?_⟩
  rcases h.2 with hn | ⟨g, cap, cur, e, hb', rest⟩
  · exact .inl hn
  · exact .inr ⟨g, cap, cur, e, by omega, rest⟩

/-- What the reference's New tells, and leaves. -/
def PRNew (w : World) (B : Nat) (n : Int) (e : Ending) (w' : World) : Prop := ∃ p hv, e = .returned (.tuple #[.pointer (some ⟨p, 0, none⟩), .int .i64 0]) ∧ w.heap.size ≤ p ∧ IsRef w' B p hv (.slice none 0 0) (dSt.new n) ∧ Adds w w'

set_option maxRecDepth 100000 in
theorem strs_zero_snoc (k : Nat) : strs (fun _ => zeros) k ++ [Str zeros] = strs (fun _ => zeros) (k + 1) := by simp [strs, List.range_succ]

set_option maxRecDepth 100000 in
set_option maxHeartbeats 1000000 in
theorem rnew_yes (n : Int) (w : World) (B : Nat) (hB : B ≤ w.heap.size) (h1 : 1 ≤ n) (h2 : n ≤ 4096) : Calls Tryz.prog 10 #[.int .i64 n] w (PRNew w B n) := by
  have h1' : ¬ n < 1 := by omega
  have h2' : ¬ 4096 < n := by omega
  obtain ⟨i9, hi9, hz0, hz1, hz2⟩ := info9all
  obtain ⟨m, rfl⟩ : ∃ m : Nat, n = m := ⟨n.toNat, by omega⟩
  go_enter Tryz.func10, Tryz.ntmps10
  go_wp2_with (go_at_call 33; refine (zero_any _).mono ?_; rintro e w1 ⟨rfl, hA1⟩)
  have hAw : Adds w w1 := ((Touch.refl _ w).alloc _).trans hA1
  have hb1 : w1.heap[w.heap.size]? = some (.cells #[.slice none 0 0, .slice none 0 0, .int .i64 0, .int .i64 (-1)] 84 (0, 0)) := by
    rw [hA1.block w.heap.size (by simp) id]; exact heap_alloc_new w _
  have HB1 := hid hb1
  clear hb1 hA1
  go_loopw [6] (fun t wr => ∃ k : Nat, k ≤ m ∧ t = .int .i64 k ∧ ∃ hv, Hid (wr.heap[w.heap.size]? = some (.cells #[hv, .slice none 0 0, .int .i64 0, .int .i64 (-1)] 84 (0, 0)) ∧ wr.ownsRow w.heap.size 9 1 hv k (strs (fun _ => zeros) k) ∧ Adds w wr)) (fun t _ => m - (intOf t).toNat)
  case atStart => exact ⟨0, Nat.zero_le _, rfl, .slice none 0 0, HB1.out, World.ownsRow_nil _ _ _ _, hAw⟩
  case round =>
    obtain ⟨k, hk, rfl, hv, HH⟩ := hrel
    clear HB1 hAw
    by_cases hlt : k < m
    · have c0 : wr.cell? ⟨w.heap.size, 0, none⟩ = some hv := cellOf HH.out.1 0
      have hpl : w.heap.size < wr.heap.size := (Array.getElem?_eq_some_iff.1 HH.out.1).1
      have hne : hv.ownBlock ≠ some w.heap.size := fun e => by
        obtain ⟨c, hc⟩ := own_type HH.out.2.1 e
        rw [HH.out.1] at hc; simp at hc
      have HNE := hid hne
      have HOWN := hid (HH.out.2.1.alloc (.cells #[Str zeros] 9))
      have HKEEP := hid (show ∀ w3 v', (wr.alloc (.cells #[Str zeros] 9)).grownBy w3 hv.ownBlock → w3.heap[w.heap.size]? = some (.cells #[hv, .slice none 0 0, .int .i64 0, .int .i64 (-1)] 84 (0, 0)) ∧ w3.frozen? ⟨w.heap.size, 0, none⟩ = false ∧ (w3.setCell ⟨w.heap.size, 0, none⟩ v').heap[w.heap.size]? = some (.cells #[v', .slice none 0 0, .int .i64 0, .int .i64 (-1)] 84 (0, 0)) from fun w3 v' hg => by
        have e : w3.heap[w.heap.size]? = some (.cells #[hv, .slice none 0 0, .int .i64 0, .int .i64 (-1)] 84 (0, 0)) := by
          rw [hg.block _ (by simp; omega) (Ne.symm HNE.out), Below.heap_alloc _ _ _ hpl]; exact HH.out.1
        exact ⟨e, frozen_of_row w3 _ 0 _ 84 e, heap_setCell_same w3 _ 0 _ 84 v' e⟩)
      have H3 := hid (show k + 1 ≤ maxLen by unfold maxLen; omega)
      have H4 := hid (show (k + 1) * 16 ≤ 140737488355328 by omega)
      have H5 := hid (show w.heap.size ≤ (wr.alloc (.cells #[Str zeros] 9)).heap.size by simp; omega)
      clear hne hpl
      go_wp2_with (at_builtin; refine wpList_append_own _ rfl _ _ 69 rfl w.heap.size 9 i9 (Str []) 1 16 Tryz.underlying69 hi9 hz0 hz1 hz2 rfl (by decide) hv k (strs (fun _ => zeros) k) rfl HOWN.out ⟨wr.heap.size, 0, none⟩ 1 1 [Str zeros] rfl rfl (cell_one_new _ _ _) (one_str _) H3.out H4.out H5.out ?_; intro v' w3 hown' hgrow' _; obtain ⟨g', cap', rfl⟩ := own_some hown'; obtain ⟨HE, HF, HS⟩ := HKEEP.out w3 (.slice (some ⟨g', 0, none⟩) (k + 1) cap') hgrow'; have c3 : w3.cell? ⟨w.heap.size, 0, none⟩ = some hv := cellOf HE 0)
      go_roundw
      case rel =>
        refine ⟨k + 1, by omega, by go_num, _, HS, ?_, ?_⟩
        · rw [strs_zero_snoc] at hown'
          refine own_kept (T := fun j => j = w.heap.size) hown' (Touch.setCell (T := fun j => j = w.heap.size) (Touch.refl _ w3) (fun _ => rfl) _) (fun j hj e => ?_)
          subst e
          obtain ⟨c, hc⟩ := own_type hown' hj
          rw [HE] at hc; simp at hc
        · refine Touch.setCell (T := fun _ => False) (Touch.grown (T := fun _ => False) (HH.out.2.2.alloc _) hgrow' (fun j hj hlt => ?_)) (fun h => absurd h (Nat.lt_irrefl _)) _
          have := (HH.out.2.1.lt j hj).1; omega
      case measure => simp [intOf]; omega
    · obtain rfl : k = m := by omega
      go_wp2
      go_ret2
      refine ⟨w.heap.size, hv, rfl, Nat.le_refl _, ⟨HH.out.1, ?_, World.ownsRow_nil _ _ _ _, fun x hx => (by cases hx), hB, ⟨by show (0 : Int) < k; omega, h2⟩, fun _ => length_zeros, fun x hx => (by cases hx)⟩, HH.out.2.2⟩
      have e : (dSt.new (k : Int)).size.toNat = k := by show Int.toNat (k : Int) = k; omega
      rw [e]
      exact own_mono HH.out.2.1 hB

end Go.Proofs.YtjlennpoaefllaaGreatDoor

/- The reference's Pending, Ints and Put. -/
namespace Go.Proofs.YtjlennpoaefllaaGreatDoor
open Go.RowKit

/-- The sectors of the writes that wait. -/
def places (W : List (Int × List UInt8)) : List Int := W.map (·.1)

end Go.Proofs.YtjlennpoaefllaaGreatDoor

/- The reference's Put and Sync. -/
namespace Go.Proofs.YtjlennpoaefllaaGreatDoor
open Go.RowKit

end Go.Proofs.YtjlennpoaefllaaGreatDoor

/- Facts on what Spoil leaves, and on strings as lists of bytes. -/
namespace Go.Proofs.YtjlennpoaefllaaGreatDoor
open Go.RowKit

end Go.Proofs.YtjlennpoaefllaaGreatDoor

/- The reference's Spoil. -/
namespace Go.Proofs.YtjlennpoaefllaaGreatDoor
open Go.RowKit

end Go.Proofs.YtjlennpoaefllaaGreatDoor

/- For DiskSynced: what a loss leaves, as plain lists; rows of six; blocks that no disk turns. -/
namespace Go.Proofs.YtjlennpoaefllaaGreatDoor
open Go.RowKit

/-- Six truths. -/
def rowB (ov : Nat → Bool) : List Value := (List.range 6).map fun j => .bool (ov j)
set_option maxRecDepth 100000 in
/-- A block of another type is none of a disk's. -/
theorem IsDisk.apart {w : World} {B p hb : Nat} {wv : Value} {D : dSt} (h : IsDisk w B p hb wv D) {k : Nat} {c : Array Value} {t : TypeId} {fr : Nat × Nat} (hk : w.heap[k]? = some (.cells c t fr)) (h1 : t ≠ 81) (h2 : t ≠ 188) : k ≠ p ∧ k ≠ hb ∧ wv.ownBlock ≠ some k := by
  refine ⟨fun e => ?_, fun e => ?_, fun e => ?_⟩
  · subst e; rw [h.box] at hk; simp at hk; exact h1 hk.2.1.symm
  · subst e; obtain ⟨es, clock, e1, _⟩ := h.held; rw [e1] at hk; cases hk
  · rcases h.wait.2 with ⟨rfl, _⟩ | ⟨g, cap, cur, rfl, _, hgg, _⟩
    · cases e
    · obtain rfl : g = k := by simpa [Value.ownBlock] using e
      rw [hgg] at hk; simp at hk; exact h2 hk.2.1.symm

set_option maxRecDepth 100000 in
theorem Touch.at {T : Nat → Prop} {w w' : World} (h : Touch T w w') {k : Nat} {o : Obj} (hk : w.heap[k]? = some o) (hn : ¬ T k) : w'.heap[k]? = some o := by
  rw [h.block k (Array.getElem?_eq_some_iff.1 hk).1 hn]; exact hk

end Go.Proofs.YtjlennpoaefllaaGreatDoor

/- The reference's Lose. -/
namespace Go.Proofs.YtjlennpoaefllaaGreatDoor
open Go.RowKit

/-- What the reference's Lose tells, and leaves. -/
def PRLose (w : World) (B : Nat) (D' : dSt) (e : Ending) (w' : World) : Prop := ∃ p hv, e = .returned (.tuple #[.pointer (some ⟨p, 0, none⟩), .int .i64 0]) ∧ w.heap.size ≤ p ∧ IsRef w' B p hv (.slice none 0 0) D' ∧ Adds w w'

theorem IsRef.mono {w : World} {B C p : Nat} {hv wv : Value} {D : dSt} (h : IsRef w C p hv wv D) (hB : B ≤ C) : IsRef w B p hv wv D :=
  ⟨h.box, own_mono h.held hB, own_mono h.wait hB, h.places, Nat.le_trans hB h.low, h.size, h.good, h.goodW⟩

end Go.Proofs.YtjlennpoaefllaaGreatDoor

/- The reference's disk with its owner; its calls, in all cases. -/
namespace Go.Proofs.YtjlennpoaefllaaGreatDoor
open Go.RowKit

/-- The reference's disk, all of whose blocks are of O. -/
def IsRO (w : World) (O : Nat → Prop) (p : Nat) (D : dSt) : Prop := ∃ hv wv, IsRef w 0 p hv wv D ∧ O p ∧ (∀ k, hv.ownBlock = some k → O k) ∧ ∀ k, wv.ownBlock = some k → O k
theorem IsRO.touch {w w' : World} {O T : Nat → Prop} {p : Nat} {D : dSt} (h : IsRO w O p D) (hT : Touch T w w') (hn : ∀ k, O k → ¬ T k) : IsRO w' O p D := by
  obtain ⟨hv, wv, hd, h1, h2, h3⟩ := h
  exact ⟨hv, wv, hd.kept hT (hn _ h1) (fun k hk => hn k (h2 k hk)) (fun k hk => hn k (h3 k hk)), h1, h2, h3⟩
theorem IsRO.adds {w w' : World} {O : Nat → Prop} {p : Nat} {D : dSt} (h : IsRO w O p D) (hT : Adds w w') : IsRO w' O p D := h.touch hT (fun _ _ => id)
theorem IsRO.mono {w : World} {O O' : Nat → Prop} {p : Nat} {D : dSt} (h : IsRO w O p D) (hn : ∀ k, O k → O' k) : IsRO w O' p D := by
  obtain ⟨hv, wv, hd, h1, h2, h3⟩ := h
  exact ⟨hv, wv, hd, hn _ h1, fun k hk => hn k (h2 k hk), fun k hk => hn k (h3 k hk)⟩
/-- What a call of the reference's disk leaves. -/
def PRo (w : World) (O : Nat → Prop) (p : Nat) (x : Int × dSt) (e : Ending) (w' : World) : Prop := e = .returned (.int .i64 x.1) ∧ Hid (∃ O', IsRO w' O' p x.2 ∧ Touch O w w' ∧ ∀ k, O' k → O k ∨ (w.heap.size ≤ k ∧ k < w'.heap.size))
theorem PRo.same {w w' : World} {O : Nat → Prop} {p : Nat} {D : dSt} (h : IsRO w O p D) (hw : w' = w) (z : Int) : PRo w O p (z, D) (.returned (.int .i64 z)) w' := by
  subst hw
  exact ⟨rfl, O, h, Touch.refl _ _, fun _ c => .inl c⟩
end Go.Proofs.YtjlennpoaefllaaGreatDoor
