/- How many bytes of a page's room cells leave: page.left. -/
import Derived.Test.YtidkmamjhpckgaaDoorPRd
namespace Go.Proofs.YtidkmamjhpckgaaDoor
open Go.RowKit

set_option maxRecDepth 100000 in
theorem part_get {w : World} {Q : Nat → Prop} {x : Pl} (h : GQ w Q x) {k : Nat} (hk : k < x.l.length) : ∃ (y : Part) (b o : Nat), x.l[k]? = some y ∧ PQ w Q y ∧ x.a = some ⟨b, o, none⟩ ∧ w.cell? ⟨b, o + k, none⟩ = some (.slice y.a y.bs.length y.cap) := by
  have hx : x.l[k]? = some x.l[k] := List.getElem?_eq_getElem hk
  obtain ⟨b, o, e, _, hc⟩ := h.at_ k (PV x.l[k]) (by rw [List.getElem?_map, hx]; rfl)
  exact ⟨_, b, o, hx, h.all _ (List.getElem_mem _), e, hc⟩
set_option maxRecDepth 100000 in
theorem taken_next {l : List Part} {k : Nat} {y : Part} (h : l[k]? = some y) : M.taken ((l.map (·.bs)).take (k + 1)) = M.taken ((l.map (·.bs)).take k) + (2 + y.bs.length) := by
  rw [List.take_add_one, List.getElem?_map, h]
  show M.taken (_ ++ [y.bs]) = _
  rw [M.taken_app, M.taken_one]
set_option maxRecDepth 100000 in
theorem taken_le (l : List (List UInt8)) (k : Nat) : M.taken (l.take k) ≤ M.taken l := by have := M.taken_take l k; omega
/-- What left tells. -/
def PLeft (l : List (List UInt8)) (w : World) (e : Ending) (w' : World) : Prop := ∃ z : Int, e = .returned (.int .i64 z) ∧ w' = w ∧ Hid ((M.taken l ≤ 244 → z = 244 - (M.taken l : Int)) ∧ (244 < M.taken l → z < 0))
set_option maxRecDepth 100000 in
set_option maxHeartbeats 1000000 in
theorem gleft_any {Q : Nat → Prop} (a : Option Addr) (hs : List Part) (n cap : Nat) (hn : hs.length = n) (w : World) (h : GQ w Q ⟨a, cap, hs⟩) (hb : ∀ x ∈ hs, x.bs.length ≤ 1000000000000000) (hl : n ≤ 1000000000000000) : Calls Tryd.prog 26 #[.slice a n cap] w (PLeft (hs.map (·.bs)) w) := by
  have HG := hid h
  have HB := hid hb
  have HN := hid hn
  clear h hb hn
  go_enter Tryd.func26, Tryd.ntmps26
  go_wp2_with fail
  go_loopw [3, 8] (fun r i wr => ∃ (k t : Nat), k ≤ n ∧ t ≤ 244 ∧ i = .int .i64 (k : Int) ∧ r = .int .i64 (244 - (t : Int)) ∧ Hid (t = M.taken ((hs.map (·.bs)).take k)) ∧ wr = w) (fun _ i _ => n - (intOf i).toNat)
  case atStart => exact ⟨0, 0, Nat.zero_le _, Nat.zero_le _, rfl, rfl, rfl, rfl⟩
  case round =>
    obtain ⟨k, t, hk, ht, rfl, rfl, HI, hw⟩ := hrel
    obtain rfl := hw.symm
    by_cases hlt : k < n
    · obtain ⟨y, b, o, hy, hq, ha, hc⟩ := part_get HG.out (k := k) (by rw [HN.out]; exact hlt)
      have ha' : a = some ⟨b, o, none⟩ := ha
      subst ha'
      have hyl := HB.out y (List.mem_of_getElem? hy)
      have HY := hid (taken_next hy)
      obtain ⟨yl, hyl0⟩ : ∃ yl, yl = y.bs.length := ⟨_, rfl⟩
      rw [← hyl0] at hc hyl HY
      clear hy hq ha hyl0
      by_cases hneg : 244 < t + (2 + yl)
      · have h1 : (244 : Int) - (t : Int) - (2 + (yl : Int)) < 0 := by omega
        go_wp2_with fail
        go_ret
        refine ⟨244 - (t : Int) - (2 + (yl : Int)), by go_num, rfl, fun c => ?_, fun _ => h1⟩
        have h2 := taken_le (hs.map (·.bs)) (k + 1)
        have h3 := HY.out
        have h4 := HI.out
        omega
      · have h1 : ¬ (244 : Int) - (t : Int) - (2 + (yl : Int)) < 0 := by omega
        go_wp2_with fail
        go_roundw
        case rel => exact ⟨k + 1, t + (2 + yl), by omega, by omega, by go_num, by go_num, hid (by rw [HY.out, ← HI.out]), by first | rfl | trivial⟩
        case measure => simp [intOf]; omega
    · obtain rfl : k = n := by omega
      have HE := hid (show t = M.taken (hs.map (·.bs)) by rw [HI.out, List.take_of_length_le (by rw [List.length_map, HN.out]; exact Nat.le_refl _)])
      go_wp2_with fail
      go_ret
      exact ⟨_, rfl, rfl, fun _ => by rw [← HE.out], fun c => by have := HE.out; omega⟩
end Go.Proofs.YtidkmamjhpckgaaDoor
