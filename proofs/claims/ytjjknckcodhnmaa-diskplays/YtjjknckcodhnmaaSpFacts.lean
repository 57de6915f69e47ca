/- Facts on what Spoil leaves, and on strings as lists of bytes. -/
import Derived.Test.YtjjknckcodhnmaaRef4
import Derived.Laws.Concat
import Derived.Laws.Slices
namespace Go.Proofs.Ytjjknckcodhnmaa
open Go.RowKit

/-- One waiting write, behind a Spoil. -/
def spf (i : Int) (a : Nat) (b : UInt8) (x : Int × List UInt8) : Int × List UInt8 := if x.1 = i then (x.1, x.2.set a b) else x
/-- The first k behind f, the others as they were. -/
def spTo (f : Int × List UInt8 → Int × List UInt8) (W : List (Int × List UInt8)) (k : Nat) : List (Int × List UInt8) := (W.take k).map f ++ W.drop k
/-- The state behind a Spoil. -/
def St.spoiled (D : St) (i : Int) (a : Nat) (b : UInt8) : St := { D with H := upd D.H i ((D.H i).set a b), W := D.W.map (spf i a b) }

theorem spTo_zero (f : Int × List UInt8 → Int × List UInt8) (W : List (Int × List UInt8)) : spTo f W 0 = W := by simp [spTo]
theorem spTo_all (f : Int × List UInt8 → Int × List UInt8) (W : List (Int × List UInt8)) : spTo f W W.length = W.map f := by simp [spTo]
theorem spTo_len (f : Int × List UInt8 → Int × List UInt8) (W : List (Int × List UInt8)) (k : Nat) (h : k ≤ W.length) : (spTo f W k).length = W.length := by simp [spTo]; omega
theorem spTo_get (f : Int × List UInt8 → Int × List UInt8) (W : List (Int × List UInt8)) (k : Nat) (h : k < W.length) : (spTo f W k)[k]? = some W[k] := by
  unfold spTo
  rw [List.getElem?_append_right (by simp; omega), List.length_map, List.length_take, Nat.min_eq_left (by omega), Nat.sub_self, List.getElem?_drop, Nat.add_zero, List.getElem?_eq_getElem h]
theorem spTo_succ (f : Int × List UInt8 → Int × List UInt8) (W : List (Int × List UInt8)) (k : Nat) (h : k < W.length) : spTo f W (k + 1) = (spTo f W k).set k (f W[k]) := by
  unfold spTo
  rw [List.set_append_right _ _ (by simp; omega), List.length_map, List.length_take, Nat.min_eq_left (by omega), Nat.sub_self, List.drop_eq_getElem_cons h, List.set_cons_zero, List.take_add_one, List.getElem?_eq_getElem h, Option.toList_some, List.map_append, List.append_assoc]
  rfl
theorem spTo_same (f : Int × List UInt8 → Int × List UInt8) (W : List (Int × List UInt8)) (k : Nat) (h : k < W.length) (e : f W[k] = W[k]) : spTo f W (k + 1) = spTo f W k := by
  rw [spTo_succ f W k h, e]
  apply List.ext_getElem?
  intro j
  rw [List.getElem?_set]
  split
  · next hj => subst hj; rw [if_pos (by rw [spTo_len f W _ (by omega)]; exact h), spTo_get f W _ h]
  · rfl

theorem rflat_set : ∀ (W : List (Int × List UInt8)) (k : Nat) (x : Int × List UInt8) (bs : List UInt8), W[k]? = some x → (rflat W).set (k * 2 + 1) (Str bs) = rflat (W.set k (x.1, bs))
  | [], k, x, bs, h => by simp at h
  | y :: W, 0, x, bs, h => by
    obtain rfl : y = x := by simpa using h
    simp [rflat, rcells]
  | y :: W, k + 1, x, bs, h => by
    have ih := rflat_set W k x bs (by simpa using h)
    simp only [rflat, List.flatMap_cons, List.set_cons_succ] at ih ⊢
    rw [List.set_append_right _ _ (by simp [rcells]; omega), show (k + 1) * 2 + 1 - (rcells y).length = k * 2 + 1 from (by show (k + 1) * 2 + 1 - 2 = _; omega), ih]
theorem flat_set : ∀ (W : List (Int × List UInt8)), (∀ x ∈ W, x.2.length = 256) → ∀ (k : Nat) (x : Int × List UInt8) (a : Nat) (b : UInt8), a < 256 → W[k]? = some x → (flat W).set (k * 257 + 1 + a) (B8 b) = flat (W.set k (x.1, x.2.set a b))
  | [], _, k, x, a, b, _, h => by simp at h
  | y :: W, hg, 0, x, a, b, ha, h => by
    obtain rfl : y = x := by simpa using h
    have hl := hg y List.mem_cons_self
    simp only [flat, List.flatMap_cons, List.set_cons_zero]
    rw [List.set_append_left _ _ (by rw [length_wcells y hl]; omega)]
    congr 1
    simp only [wcells, show 0 * 257 + 1 + a = a + 1 by omega, List.set_cons_succ, S, List.map_set]
  | y :: W, hg, k + 1, x, a, b, ha, h => by
    have hl := hg y List.mem_cons_self
    have ih := flat_set W (fun z hz => hg z (List.mem_cons_of_mem _ hz)) k x a b ha (by simpa using h)
    simp only [flat, List.flatMap_cons, List.set_cons_succ] at ih ⊢
    rw [List.set_append_right _ _ (by rw [length_wcells y hl]; omega), length_wcells y hl, show (k + 1) * 257 + 1 + a - 257 = k * 257 + 1 + a by omega, ih]

theorem set_join (bs : List UInt8) (a : Nat) (b : UInt8) (h : a < bs.length) : bs.take a ++ [b] ++ bs.drop (a + 1) = bs.set a b := by
  rw [List.set_eq_take_append_cons_drop, if_pos h]; simp

theorem sl_to (bs : List UInt8) (n : Nat) (h : n ≤ bs.length) (w : World) : (Instr.slice 9 (Str bs) none (some (.int .i64 (n : Int))) none).run Try.prog w = .ok (Str (bs.take n)) w := by
  have hs : (⟨bs.toArray⟩ : ByteArray).size = bs.length := by simp [ByteArray.size]
  rw [Str, run_slice_string_h w 9 _ Try.underlying9 .i64 (n : Int) (by omega) (by rw [hs]; omega)]
  congr 2
  apply ByteArray.ext
  simp [ByteArray.data_extract]
theorem sl_from (bs : List UInt8) (n : Nat) (h : n ≤ bs.length) (w : World) : (Instr.slice 9 (Str bs) (some (.int .i64 (n : Int))) none none).run Try.prog w = .ok (Str (bs.drop n)) w := by
  have hs : (⟨bs.toArray⟩ : ByteArray).size = bs.length := by simp [ByteArray.size]
  rw [Str, run_slice_string_l w 9 _ Try.underlying9 .i64 (n : Int) (by omega) (by rw [hs]; omega)]
  congr 2
  apply ByteArray.ext
  simp [ByteArray.data_extract, hs, List.take_of_length_le]
theorem str_cat (a b : List UInt8) (ha : a.length ≤ 1000) (hb : b.length ≤ 1000) (w : World) : (binOp .add 9 (Str a) (Str b)).run Try.prog w = .ok (Str (a ++ b)) w := by
  rw [Str, Str, binOp_string_add]
  exact run_string_add_lists w a b (by omega) (by omega)

end Go.Proofs.Ytjjknckcodhnmaa
