/- A log in memory; Drop, Begin, Append. -/
import Derived.Test.YtmmgfankbabfbaaDoorQ17
namespace Go.Proofs.YtmmgfankbabfbaaDoor
open Go.RowKit

/-- A log's state: its sectors, its epoch, is it closed, the groups' bytes, the records that wait. -/
structure LS where
  fr : Nat
  ct : Nat
  ep : Nat
  cl : Bool
  G : List (List UInt8)
  R : List (List UInt8)
/-- A state that may be. -/
structure LS.Ok (L : LS) : Prop where
  fr : L.fr ≤ 4096
  ct : L.ct ≤ 10000
  ep : L.ep ≤ 1000000000
  us : W.usedOf L.G ≤ L.ct
  wt : L.R ≠ [] → W.secs (W.gbytes L.R).length ≤ L.ct - W.usedOf L.G
  good : ∀ g ∈ L.G, W.Good g
set_option maxRecDepth 100000 in
theorem secs_len {n m : Nat} (h : W.secs n ≤ m) : n ≤ 233 * m := by unfold W.secs at h; omega
set_option maxRecDepth 100000 in
theorem texts_le (R : List (List UInt8)) : (W.texts R).length ≤ (W.gbytes R).length := by rw [W.gbytes, List.length_append]; omega
set_option maxRecDepth 100000 in
theorem LS.Ok.len {L : LS} (h : L.Ok) : (W.texts L.R).length ≤ 2330000 ∧ L.R.length ≤ 2330000 := by
  by_cases hR : L.R = []
  · rw [hR]; simp [W.texts]
  · have h1 := secs_len (h.wt hR)
    have h2 := texts_le L.R
    have h3 := W.texts_len L.R
    have h4 := h.ct
    omega

/-- Where a group's bytes may lie. -/
def DQ (O : Nat → Prop) (l : Nat) (gv tv : Value) : Nat → Prop := fun k => O k ∧ k ≠ l ∧ gv.ownBlock ≠ some k ∧ tv.ownBlock ≠ some k
set_option maxRecDepth 100000 in
theorem type_ne {w : World} {k l : Nat} {c d : Array Value} {t u : TypeId} {f g : Nat × Nat} (h : w.heap[k]? = some (.cells c t f)) (h' : w.heap[l]? = some (.cells d u g)) (hne : t ≠ u) : k ≠ l := by
  intro e; subst e
  rw [h] at h'
  simp at h'
  exact hne h'.2.1
/-! ### Drop -/
/-! ### Begin -/
end Go.Proofs.YtmmgfankbabfbaaDoor
