/- The reference's New and Read. -/
import Derived.Test.YtlgbgedkedddaaaDoorDRef
namespace Go.Proofs.YtlgbgedkedddaaaDoor
open Go.RowKit

set_option maxRecDepth 100000 in
theorem info9all : ∃ i, Tryd.prog.info? 9 = some i ∧ i.zero = some (Str []) ∧ i.size = 1 ∧ i.bytes = 16 := by
  have h : (Tryd.prog.info? 9).map (fun i => (i.zero, i.size, i.bytes)) = some (some (Str []), 1, 16) := by kernel_rfl
  cases hq : Tryd.prog.info? 9 with
  | none => rw [hq] at h; cases h
  | some i =>
    rw [hq] at h
    simp only [Option.map_some, Option.some.injEq, Prod.mk.injEq] at h
    exact ⟨i, rfl, h.1, h.2.1, h.2.2⟩

theorem one_str (bs : List UInt8) : ∀ u ∈ [Str bs], u.oneCell' = true := fun u hu => by obtain rfl := List.mem_singleton.1 hu; rfl

set_option maxRecDepth 100000 in
theorem own_some {w : World} {B : Nat} {e : TypeId} {size : Nat} {v : Value} {n : Nat} {xs : List Value} (h : w.ownsRow B e size v (n + 1) xs) : ∃ g cap, v = .slice (some ⟨g, 0, none⟩) (n + 1) cap := by
  rcases h.2 with ⟨_, hn⟩ | ⟨g, cap, cur, rfl, _⟩
  · omega
  · exact ⟨g, cap, rfl⟩

set_option maxRecDepth 100000 in
theorem own_mono {w : World} {B C : Nat} {e : TypeId} {size : Nat} {v : Value} {n : Nat} {xs : List Value} (h : w.ownsRow B e size v n xs) (hb : C ≤ B) : w.ownsRow C e size v n xs := by
  refine ⟨h.1, ?_⟩
  rcases h.2 with hn | ⟨g, cap, cur, e, hb', rest⟩
  · exact .inl hn
  · exact .inr ⟨g, cap, cur, e, by omega, rest⟩

set_option maxRecDepth 100000 in
theorem strs_zero_snoc (k : Nat) : strs (fun _ => zeros) k ++ [Str zeros] = strs (fun _ => zeros) (k + 1) := by simp [strs, List.range_succ]

set_option maxRecDepth 100000 in
theorem hasOf_snoc (H : Int → List UInt8) (W : List (Int × List UInt8)) (i : Int) (k : Nat) (h : k < W.length) : hasOf H (W.take (k + 1)) i = if W[k].1 = i then W[k].2 else hasOf H (W.take k) i := by
  unfold hasOf
  rw [List.take_add_one, List.getElem?_eq_getElem h, Option.toList_some, List.foldl_append, List.foldl_cons, List.foldl_nil]

end Go.Proofs.YtlgbgedkedddaaaDoor
