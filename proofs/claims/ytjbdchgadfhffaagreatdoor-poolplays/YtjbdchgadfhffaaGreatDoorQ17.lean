/- For DiskSynced: what a loss leaves, as plain lists; rows of six; blocks that no disk turns. -/
import Derived.Test.YtjbdchgadfhffaaGreatDoorQ12
import Derived.Test.YtjbdchgadfhffaaGreatDoorQ14
namespace Go.Proofs.YtjbdchgadfhffaaGreatDoor
open Go.RowKit

/-- A sector that no waiting write goes over is as it was. -/
theorem lose_apart {H : Int → List UInt8} {W : List (Int × List UInt8)} {ks : List Bool} {torn at_ : Int} {i : Int} (h : ∀ x ∈ W, x.1 ≠ i) : ∀ k, loseTo H W ks torn at_ k i = H i
  | 0 => rfl
  | k + 1 => by
    have ih := lose_apart (H := H) (ks := ks) (torn := torn) (at_ := at_) h k
    rw [loseTo]
    cases hW : W[k]? with
    | none => exact ih
    | some x =>
      have hne : i ≠ x.1 := fun e => h x (List.mem_of_getElem? hW) e.symm
      simp only [loseOne]
      split
      · rw [upd, if_neg hne]; exact ih
      · split
        · rw [upd, if_neg hne]; exact ih
        · exact ih
/-- With nothing kept, and none torn, all is as it was held. -/
theorem lose_nothing {H : Int → List UInt8} {W : List (Int × List UInt8)} {at_ : Int} : ∀ k, loseTo H W [] (-1) at_ k = H
  | 0 => rfl
  | k + 1 => by
    have ih := lose_nothing (H := H) (W := W) (at_ := at_) k
    rw [loseTo]
    cases hW : W[k]? with
    | none => exact ih
    | some x =>
      simp only [loseOne]
      rw [if_neg (by omega), if_neg (by simp), ih]
/-- With all kept, and none torn, each sector holds what it had. -/
theorem lose_all {H : Int → List UInt8} {W : List (Int × List UInt8)} {at_ : Int} : ∀ k, k ≤ W.length → loseTo H W (List.replicate W.length true) (-1) at_ k = syncH H (W.take k)
  | 0, _ => rfl
  | k + 1, hk => by
    have ih := lose_all (H := H) (W := W) (at_ := at_) k (by omega)
    rw [lose_kept (W := W) (x := W[k]) (List.getElem?_eq_getElem (by omega)) (by omega) (by rw [List.getD_eq_getElem?_getD, List.getElem?_replicate, if_pos (by omega)]; rfl), ih, syncH_snoc H W k (by omega)]

/-- The ninth byte. -/
def byte9 (bs : List UInt8) : UInt8 := bs.getD 9 0
set_option maxRecDepth 100000 in
theorem byte9_get {bs : List UInt8} (h : bs.length = 256) : bs[9]? = some (byte9 bs) := by
  rw [byte9, List.getD_eq_getElem?_getD, List.getElem?_eq_getElem (by omega)]; rfl

/-- Six bytes: the first k are f's, the others 0. -/
def row6 (f : Nat → UInt8) (k : Nat) : List UInt8 := (List.range 6).map fun j => if j < k then f j else 0
set_option maxRecDepth 100000 in
theorem row6_len (f : Nat → UInt8) (k : Nat) : (row6 f k).length = 6 := by simp [row6]
set_option maxRecDepth 100000 in
theorem row6_get (f : Nat → UInt8) (k j : Nat) (hj : j < 6) : (row6 f k)[j]? = some (if j < k then f j else 0) := by
  simp [row6, hj]
set_option maxRecDepth 100000 in
theorem row6_step (f : Nat → UInt8) (k : Nat) (hk : k < 6) : (S (row6 f k)).toArray.setIfInBounds k (.int .u8 ((f k).toNat : Int)) = (S (row6 f (k + 1))).toArray := by
  rw [List.setIfInBounds_toArray]
  congr 1
  apply List.ext_getElem?
  intro j
  rw [List.getElem?_set]
  by_cases hj : j < 6
  · rw [S_get, S_get, row6_get f k j hj, row6_get f (k + 1) j hj]
    by_cases e : k = j
    · subst e; simp [length_S, row6_len, hk, B8]
    · rw [if_neg e]
      have : (j < k + 1) = (j < k) := by apply propext; omega
      simp only [this]
  · rw [S_get, S_get, List.getElem?_eq_none (by rw [row6_len]; omega), List.getElem?_eq_none (by rw [row6_len]; omega), if_neg (by omega)]

/-- Six truths. -/
def rowB (ov : Nat → Bool) : List Value := (List.range 6).map fun j => .bool (ov j)
set_option maxRecDepth 100000 in
theorem rowB_len (ov : Nat → Bool) : (rowB ov).length = 6 := by simp [rowB]
set_option maxRecDepth 100000 in
theorem rowB_get (ov : Nat → Bool) (j : Nat) (hj : j < 6) : (rowB ov)[j]? = some (.bool (ov j)) := by simp [rowB, hj]
set_option maxRecDepth 100000 in
theorem rowB_step (ov : Nat → Bool) (k : Nat) (hk : k < 6) : (rowB ov).toArray.setIfInBounds k (.bool true) = (rowB (fun j => ov j || j == k)).toArray := by
  rw [List.setIfInBounds_toArray]
  congr 1
  apply List.ext_getElem?
  intro j
  rw [List.getElem?_set]
  by_cases hj : j < 6
  · rw [rowB_get ov j hj, rowB_get _ j hj]
    by_cases e : k = j
    · subst e; simp [rowB_len, hk]
    · have e' : (j == k) = false := by simp; omega
      rw [if_neg e, e', Bool.or_false]
  · rw [List.getElem?_eq_none (by rw [rowB_len]; omega), List.getElem?_eq_none (by rw [rowB_len]; omega), if_neg (by omega)]

set_option maxRecDepth 100000 in
/-- A block of another type is none of a disk's. -/
theorem IsDisk.apart {w : World} {B p hb : Nat} {wv : Value} {D : dSt} (h : IsDisk w B p hb wv D) {k : Nat} {c : Array Value} {t : TypeId} {fr : Nat × Nat} (hk : w.heap[k]? = some (.cells c t fr)) (h1 : t ≠ 48) (h2 : t ≠ 117) : k ≠ p ∧ k ≠ hb ∧ wv.ownBlock ≠ some k := by
  refine ⟨fun e => ?_, fun e => ?_, fun e => ?_⟩
  · subst e; rw [h.box] at hk; simp at hk; exact h1 hk.2.1.symm
  · subst e; obtain ⟨es, clock, e1, _⟩ := h.held; rw [e1] at hk; cases hk
  · rcases h.wait.2 with ⟨rfl, _⟩ | ⟨g, cap, cur, rfl, _, hgg, _⟩
    · cases e
    · obtain rfl : g = k := by simpa [Value.ownBlock] using e
      rw [hgg] at hk; simp at hk; exact h2 hk.2.1.symm

set_option maxRecDepth 100000 in
theorem Touch.at {T : Nat → Prop} {w w' : World} (h : Touch T w w') {k : Nat} {o : Obj} (hk : w.heap[k]? = some o) (hn : ¬ T k) : w'.heap[k]? = some o := by
  rw [h.block k (Array.getElem?_eq_some_iff.1 hk).1 hn]; exact hk

end Go.Proofs.YtjbdchgadfhffaaGreatDoor
