/- Texts put together: DRef, DRef2. -/
import Derived.Test.YtllkplanjfnnmaaDoorQ14
import Derived.Laws.IdiomStrings
/- The reference's disk in memory, and its small functions: Zero, step, New, Cut. -/
namespace Go.Proofs.YtllkplanjfnnmaaDoor
open Go.RowKit

/-- What is held, as cells. -/
def strs (H : Int → List UInt8) (n : Nat) : List Value := (List.range n).map fun (i : Nat) => Str (H (i : Int))
/-- A waiting write of the reference, as cells. -/
def rcells (x : Int × List UInt8) : List Value := [.int .i64 x.1, Str x.2]
def rflat (W : List (Int × List UInt8)) : List Value := W.flatMap rcells

set_option maxRecDepth 100000 in
theorem strs_len (H : Int → List UInt8) (n : Nat) : (strs H n).length = n := by simp [strs]
set_option maxRecDepth 100000 in
theorem strs_get (H : Int → List UInt8) (n i : Nat) (h : i < n) : (strs H n)[i]? = some (Str (H (i : Int))) := by simp [strs, h]
set_option maxRecDepth 100000 in
theorem strs_set (H : Int → List UInt8) (n i : Nat) (bs : List UInt8) : (strs H n).set i (Str bs) = strs (upd H (i : Int) bs) n := by
  apply List.ext_getElem?
  intro j
  rw [List.getElem?_set]
  by_cases hj : j < n
  · rw [strs_get _ _ _ hj, strs_get _ _ _ hj, strs_len]
    by_cases e : i = j
    · subst e; simp [hj, upd]
    · rw [if_neg e, upd, if_neg (by omega)]
  · rw [List.getElem?_eq_none (by rw [strs_len]; omega), List.getElem?_eq_none (by rw [strs_len]; omega), strs_len]
    split
    · rw [if_neg (by omega)]
    · rfl
theorem rflat_len : ∀ (W : List (Int × List UInt8)), (rflat W).length = W.length * 2
  | [] => rfl
  | x :: W => by
    have := rflat_len W
    simp only [rflat, List.flatMap_cons, List.length_append, List.length_cons] at this ⊢
    rw [this]; simp [rcells]; omega
theorem rflat_get : ∀ (W : List (Int × List UInt8)) (k : Nat) (hk : k < W.length) (j : Nat), j < 2 → (rflat W)[k * 2 + j]? = (rcells W[k])[j]?
  | [], k, hk, _, _ => absurd hk (by simp)
  | x :: W, 0, _, j, hj => by
    simp only [rflat, List.flatMap_cons, Nat.zero_mul, Nat.zero_add, List.getElem_cons_zero]
    rw [List.getElem?_append_left (by simp [rcells]; exact hj)]
  | x :: W, k + 1, hk, j, hj => by
    have ih := rflat_get W k (by simpa using hk) j hj
    simp only [rflat, List.flatMap_cons] at ih ⊢
    rw [List.getElem?_append_right (by simp [rcells]; omega), show (rcells x).length = 2 from rfl, show (k + 1) * 2 + j - 2 = k * 2 + j by omega, ih, List.getElem_cons_succ]
set_option maxRecDepth 100000 in
theorem rflat_snoc (W : List (Int × List UInt8)) (x : Int × List UInt8) : rflat (W ++ [x]) = rflat W ++ rcells x := by simp [rflat]

set_option maxRecDepth 100000 in
theorem own_kept {w w' : World} {T : Nat → Prop} {B : Nat} {e : TypeId} {size : Nat} {v : Value} {n : Nat} {xs : List Value} (h : w.ownsRow B e size v n xs) (ht : Touch T w w') (hn : ∀ k, v.ownBlock = some k → ¬ T k) : w'.ownsRow B e size v n xs := by
  refine ⟨h.1, ?_⟩
  rcases h.2 with hh | ⟨g, cap, cur, rfl, hb', hgg, rest⟩
  · exact .inl hh
  · refine .inr ⟨g, cap, cur, rfl, hb', ?_, rest⟩
    rw [ht.block g (Array.getElem?_eq_some_iff.1 hgg).1 (hn g rfl)]; exact hgg
set_option maxRecDepth 100000 in
/-- Two rows of different types are apart. -/
theorem own_type {w : World} {B : Nat} {e : TypeId} {size : Nat} {v : Value} {n : Nat} {xs : List Value} (h : w.ownsRow B e size v n xs) {k : Nat} (hk : v.ownBlock = some k) : ∃ cur, w.heap[k]? = some (.cells cur e (0, 0)) := by
  rcases h.2 with ⟨rfl, _⟩ | ⟨g, cap, cur, rfl, hb', hgg, rest⟩
  · cases hk
  · obtain rfl : g = k := by simpa [Value.ownBlock] using hk
    exact ⟨cur, hgg⟩

set_option maxRecDepth 100000 in
theorem conv_bytes (w : World) (g cap n : Nat) (bs : List UInt8) (hn : bs.length = n) (h : ∀ j b, bs[j]? = some b → w.cell? ⟨g, j, none⟩ = some (.int .u8 (b.toNat : Int))) : (convert 22 9 (.slice (some ⟨g, 0, none⟩) n cap)).run Tryd.prog w = .ok (Str bs) w := by
  subst hn
  refine run_convert_bytes_back w 22 9 5 ⟨g, 0, none⟩ cap bs Tryd.underlying22 Tryd.underlying5 Tryd.underlying9 (fun j hj => ?_)
  rw [Addr.add_mid, Nat.zero_add]
  exact h j _ (by rw [List.getElem?_eq_getElem hj])

end Go.Proofs.YtllkplanjfnnmaaDoor

/- The reference's New and Read. -/
namespace Go.Proofs.YtllkplanjfnnmaaDoor
open Go.RowKit

set_option maxRecDepth 100000 in
theorem info9all : ∃ i, Tryd.prog.info? 9 = some i ∧ i.zero = some (Str []) ∧ i.size = 1 ∧ i.bytes = 16 := by
  have h : (Tryd.prog.info? 9).map (fun i => (i.zero, i.size, i.bytes)) = some (some (Str []), 1, 16) := by kernel_rfl
  cases hq : Tryd.prog.info? 9 with
  | none => rw [hq] at h; cases h
  | some i =>
    rw [hq] at h
    simp only [Option.map_some, Option.some.injEq, Prod.mk.injEq] at h
    exact ⟨i, rfl, h.1, h.2.1, h.2.2⟩

theorem one_str (bs : List UInt8) : ∀ u ∈ [Str bs], u.oneCell' = true := fun u hu => by obtain rfl := List.mem_singleton.1 hu; rfl

set_option maxRecDepth 100000 in
theorem own_some {w : World} {B : Nat} {e : TypeId} {size : Nat} {v : Value} {n : Nat} {xs : List Value} (h : w.ownsRow B e size v (n + 1) xs) : ∃ g cap, v = .slice (some ⟨g, 0, none⟩) (n + 1) cap := by
  rcases h.2 with ⟨_, hn⟩ | ⟨g, cap, cur, rfl, _⟩
  · omega
  · exact ⟨g, cap, rfl⟩

set_option maxRecDepth 100000 in
theorem own_mono {w : World} {B C : Nat} {e : TypeId} {size : Nat} {v : Value} {n : Nat} {xs : List Value} (h : w.ownsRow B e size v n xs) (hb : C ≤ B) : w.ownsRow C e size v n xs := by
  refine ⟨h.1, ?_⟩
  rcases h.2 with hn | ⟨g, cap, cur, e, hb', rest⟩
  · exact .inl hn
  · exact .inr ⟨g, cap, cur, e, by omega, rest⟩

set_option maxRecDepth 100000 in
theorem strs_zero_snoc (k : Nat) : strs (fun _ => zeros) k ++ [Str zeros] = strs (fun _ => zeros) (k + 1) := by simp [strs, List.range_succ]

set_option maxRecDepth 100000 in
theorem hasOf_snoc (H : Int → List UInt8) (W : List (Int × List UInt8)) (i : Int) (k : Nat) (h : k < W.length) : hasOf H (W.take (k + 1)) i = if W[k].1 = i then W[k].2 else hasOf H (W.take k) i := by
  unfold hasOf
  rw [List.take_add_one, List.getElem?_eq_getElem h, Option.toList_some, List.foldl_append, List.foldl_cons, List.foldl_nil]

end Go.Proofs.YtllkplanjfnnmaaDoor
