/- Cells of a page, told in rows of one's own. -/
import Derived.Test.YtjlennpoaefllaaGreatDoorQ23
namespace Go.Proofs.YtjlennpoaefllaaGreatDoor
open Go.RowKit

/-- Each of the cells lies in a row of its own. -/
def Ro (B : Nat) (w : World) (hs : List Part) : Prop := ∀ x ∈ hs, w.ownsRow B 5 1 (.slice x.a x.bs.length x.cap) x.bs.length (S x.bs)
set_option maxRecDepth 100000 in
theorem row_apart {w : World} {B C : Nat} {e f : TypeId} {u v : Value} {n m : Nat} {xs ys : List Value} (h : w.ownsRow B e 1 u n xs) (h' : w.ownsRow C f 1 v m ys) (hef : e ≠ f) {k : Nat} (hk : u.ownBlock = some k) : v.ownBlock ≠ some k := by
  intro hk'
  rcases h.2 with ⟨rfl, _⟩ | ⟨g, cap, cur, rfl, _, hg, _⟩
  · cases hk
  · rcases h'.2 with ⟨rfl, _⟩ | ⟨g', cap', cur', rfl, _, hg', _⟩
    · cases hk'
    · obtain rfl : g = k := by simpa [Value.ownBlock] using hk
      obtain rfl : g' = g := by simpa [Value.ownBlock] using hk'
      rw [hg] at hg'
      cases hg'
      exact hef rfl
theorem Ro.touch {B : Nat} {w w' : World} {T : Nat → Prop} {hs : List Part} (h : Ro B w hs) (hT : Touch T w w') (hn : ∀ x ∈ hs, ∀ k, (Value.slice x.a x.bs.length x.cap).ownBlock = some k → ¬ T k) : Ro B w' hs := fun x hx => row_touch (h x hx) hT (hn x hx)
/-- Cells that are told. -/
def PCellsR (w : World) (ls : List (List UInt8)) (e : Ending) (w' : World) : Prop := ∃ ca cc, ∃ hs : List Part, e = .returned (.slice ca ls.length cc) ∧ Hid (hs.map (·.bs) = ls ∧ GQ w' (fun k => w.heap.size ≤ k) ⟨ca, cc, hs⟩ ∧ Adds w w' ∧ ls.length ≤ cc ∧ Ro w.heap.size w' hs)
set_option maxRecDepth 100000 in
set_option maxHeartbeats 1000000 in
theorem gcells_rows (a : Option Addr) (bs : List UInt8) (n cap : Nat) (w : World) (hn : bs.length = n) (hc : n ≤ cap) (hA : At w a bs) : Calls Tryz.prog 115 #[.slice a n cap] w (PCellsR w (M.cellsP bs)) := by
  have HR := hid (gread_any a bs n cap w hn hc hA)
  have HL := hid (show (∀ c ∈ M.cellsP bs, c.length ≤ 244) ∧ (M.cellsP bs).length ≤ 122 by
    cases hR : M.readP bs with
    | none => rw [(M.none_all hR).2.2.1]; exact ⟨fun c h => (by cases h), by decide⟩
    | some p => rw [(M.some_all hR).2.2.1]; exact ⟨fun c h => cell_len (M.read_ok hR).1 h, (M.read_ok hR).1.count.1⟩)
  clear hA hn
  go_enter Tryz.func115, Tryz.ntmps115
  go_upto_region 2 with (go_at_call 141; refine HR.out.mono ?_; rintro e w1 ⟨va, vc, hs, rfl, H1⟩)
  obtain ⟨N, hN⟩ : ∃ N, N = hs.length := ⟨_, rfl⟩
  have hN122 : N ≤ 122 := by rw [hN, ← List.length_map (f := (·.bs)), H1.out.1]; exact HL.out.2
  have HN := hid hN
  rw [← hN]
  clear hN
  have hmk := make_cells N (by omega)
  obtain ⟨wB, hwB⟩ : ∃ wB, wB = w1.alloc (Obj.cells #[Value.int IntKind.i64 (M.noP bs : Int), Value.int IntKind.u8 ((M.kindP bs).toNat : Int), Value.slice va N vc] 169) := ⟨_, rfl⟩
  have HB := hid (show wB.heap[w1.heap.size]? = some (Obj.cells #[Value.int IntKind.i64 (M.noP bs : Int), Value.int IntKind.u8 ((M.kindP bs).toNat : Int), Value.slice va N vc] 169 (0, 0)) by rw [hwB]; exact heap_alloc_new w1 _)
  have HA := hid (show Adds w1 wB by rw [hwB]; exact (Touch.refl _ w1).alloc _)
  rw [← hwB]
  clear hwB
  have cB2 : wB.cell? ⟨w1.heap.size, 2, none⟩ = some (.slice va N vc) := by have q := cellOf HB.out 2; simpa using q
  have cB3 : (wB.alloc (.cells (madeCells #[.slice none 0 0] N) 43)).cell? ⟨w1.heap.size, 2, none⟩ = some (.slice va N vc) := below_adds ((Touch.refl _ wB).alloc _) cB2
  have HO := hid (show (wB.alloc (.cells (madeCells #[.slice none 0 0] N) 43)).ownsRow 0 43 1 (.slice (some ⟨wB.heap.size, 0, none⟩) 0 N) 0 [] from World.ownsRow_made (base := 0) (e := 43) (size := 1) wB (madeCells #[.slice none 0 0] N) N (Nat.zero_le _) (by unfold maxLen; omega) (by rw [size_madeCells, Nat.mul_one]))
  go_wp2_with fail
  clear cB2 cB3 hmk
  go_loopw [5, 20] (fun v i wr => ∃ (k : Nat) (ts : List Part), k ≤ N ∧ i = .int .i64 (k : Int) ∧ ts.length = k ∧ Hid (Fresh w1.heap.size wr v ts ∧ ts.map (·.bs) = (hs.map (·.bs)).take k ∧ Adds w1 wr ∧ Ro w1.heap.size wr ts)) (fun _ i _ => N - (intOf i).toNat)
  case atStart =>
    refine ⟨0, [], Nat.zero_le _, rfl, rfl, ⟨HO.out, fun j hj => ?_, fun x hx => (by cases hx)⟩, rfl, HA.out.alloc _, fun x hx => (by cases hx)⟩
    simp [Value.ownBlock] at hj
    subst hj
    exact HA.out.size
  case round =>
    obtain ⟨k, ts, hk, rfl, hlen, HI⟩ := hrel
    by_cases hlt : k < N
    · obtain ⟨y, b, o, hy, hq, ha, hcell⟩ := part_get H1.out.2.1 (k := k) (by show k < hs.length; rw [← HN.out]; exact hlt)
      have ha' : va = some ⟨b, o, none⟩ := ha
      subst ha'
      have hcr : wr.cell? ⟨b, o + k, none⟩ = some (.slice y.a y.bs.length y.cap) := below_adds HI.out.2.2.1 hcell
      have hyl : y.bs.length ≤ 244 := HL.out.1 _ (by rw [← H1.out.1]; exact List.mem_map_of_mem (List.mem_of_getElem? hy))
      have HC := hid (clone_own y.a y.bs y.bs.length y.cap rfl wr (by omega) hq.non (hq.at_.at.adds HI.out.2.2.1))
      have HY := hid (show ((hs.map (·.bs)).take (k + 1)) = (hs.map (·.bs)).take k ++ [y.bs] by rw [List.take_add_one, List.getElem?_map, hy]; rfl)
      have HT := hid hlen
      generalize hyl0 : y.bs.length = yl at *
      have HYL := hid hyl0
      clear hy hq ha hcell hlen hyl0
      go_wp2_with (first
        | (go_at_call 137; refine HC.out.mono ?_; rintro e w3 ⟨v3, rfl, h1, h2⟩; rw [HYL.out] at h1; obtain ⟨ga, gc, hv, _, hgn, hgq⟩ := own_cq h1; subst hv
           have H3 := hid (And.intro h1 (And.intro h2 (And.intro hgn hgq)))
           have HA3 := hid (fun o => show (w3.alloc o).ownsRow 0 43 1 u5 k (ts.map PV) by have q := row_touch (row_touch HI.out.1.rows h2 (fun _ _ => id)) ((Touch.refl _ w3).alloc o) (fun _ _ => id); rw [HT.out] at q; exact q)
           clear h1 h2 hgn hgq)
        | (at_builtin; refine append_b1 rfl _ _ rfl u5 k (ts.map PV) rfl (HA3.out _) w3.heap.size (.slice ga yl gc) rfl (cellOf (heap_alloc_new w3 _) 0) rfl (by omega) ?_; intro v5 w5 G5; have HG := hid G5; clear G5))
      go_roundw
      case rel =>
        have hF3 := HI.out.1.touch H3.out.2.1 (fun _ _ => id)
        have hsz := HI.out.2.2.1.size
        have hsz3 := H3.out.2.1.size
        have hG := HG.out
        refine ⟨k + 1, ts ++ [⟨ga, y.bs, gc⟩], by omega, by go_num, by simp [HT.out], ?_, ?_, ?_, ?_⟩
        · refine hF3.more ((Touch.refl _ w3).alloc _) (by rw [HT.out]; show Grew _ _ _ _ _ _ (_ ++ [.slice ga y.bs.length gc]); rw [HYL.out]; exact hG) (by omega) ⟨(H3.out.2.2.2.mono (fun j _ c => ?_)).adds ((Touch.refl _ w3).alloc _), H3.out.2.2.1⟩
          have h1 := (row_low H3.out.1 c).1
          exact ⟨by omega, fun c2 => by have := (row_low HI.out.1.rows c2).2; omega⟩
        · rw [List.map_append, HI.out.2.1, HY.out]; rfl
        · exact ((HI.out.2.2.1.trans H3.out.2.1).alloc _).then hG.touch (fun j hj c => by have := HI.out.1.own j c; omega)
        · have hR3 : Ro w1.heap.size w3 (ts ++ [⟨ga, y.bs, gc⟩]) := fun x hx => by
            rcases List.mem_append.1 hx with hx | hx
            · exact (HI.out.2.2.2.touch H3.out.2.1 (fun _ _ _ _ => id)) x hx
            · obtain rfl := List.mem_singleton.1 hx
              show w3.ownsRow w1.heap.size 5 1 (.slice ga y.bs.length gc) y.bs.length (S y.bs)
              rw [HYL.out]
              exact row_base H3.out.1 (fun j hj => by have := (row_low H3.out.1 hj).1; omega)
          have hR4 := hR3.touch ((Touch.refl _ w3).alloc (Obj.cells #[.slice ga yl gc] 43)) (fun _ _ _ _ => id)
          exact hR4.touch hG.touch (fun x hx j hj => row_apart (hR4 x hx) (HA3.out _) (by decide) hj)
      case measure => simp [intOf]; omega
    · obtain rfl : N = k := by omega
      obtain ⟨ca, cc, hv5, hle, hcn, hcq⟩ := own_cq HI.out.1.rows
      have HQ := hid (And.intro hle (And.intro hcn hcq))
      subst hv5
      rw [hlen]
      clear hle hcn hcq
      go_wp2_with fail
      go_ret
      have hF := HI.out.1
      have hw1 : w.heap.size ≤ w1.heap.size := H1.out.2.2.1.size
      have hts : ts.map (·.bs) = M.cellsP bs := by rw [HI.out.2.1, List.take_of_length_le (by rw [List.length_map, ← HN.out]; exact Nat.le_refl _), H1.out.1]
      have hll : (M.cellsP bs).length = N := by rw [← hts, List.length_map, hlen]
      refine ⟨ca, cc, ts, by rw [hll]; rfl, hts, ⟨HQ.out.2.2.mono (fun j _ c => by have := hF.own j c; omega), HQ.out.2.1, fun x hx => (hF.data x hx).mono (fun j _ c => by omega)⟩, H1.out.2.2.1.trans HI.out.2.2.1, by have := HQ.out.1; omega, fun x hx => row_base (HI.out.2.2.2 x hx) (fun j hj => by have := (row_low (HI.out.2.2.2 x hx) hj).1; omega)⟩
end Go.Proofs.YtjlennpoaefllaaGreatDoor
