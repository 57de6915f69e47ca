/- Texts put together: GMath, GLeaf, GSpace, GIter, GRf, GMay. -/
import Derived.Test.YtjlennpoaefllaaGreatDoorQ22
import Derived.Test.YtjlennpoaefllaaGreatDoorQ23
import Derived.RangeFuncNested
import Derived.RangeFuncBound
import Derived.RangeFuncCalls
import Derived.RangeFuncLeaves
import Derived.Shelf.Abstract
import Derived.Shelf.RegionOpen
import Derived.WalkKit
import Derived.OwnWalkIn
import Derived.TacticsInMore
import Derived.LoopNIn
import Derived.LoopIn
import Derived.Maps.AppendAt
import Derived.Deep.CutBlock
import Derived.Deep.DeepCutAuto
import Derived.Deep.CutRange
/- Which pages are taken, by definition: bits of bytes; each call of a space over a pool's state. -/
namespace Go.Proofs.YtjlennpoaefllaaGreatDoor.G

/-- How many maps c pages have; of how many pages the k-th one tells; how many bytes it has. -/
def maps (c : Nat) : Nat := (c + 1919) / 1920
def size (c k : Nat) : Nat := min (c - 1920 * k) 1920
def cells (c k : Nat) : Nat := (size c k + 7) / 8
/-- The bit i of bytes. -/
def bit (bs : List UInt8) (i : Nat) : Bool := (bs.getD (i / 8) 0).toNat.testBit (i % 8)
/-- The bit i turned. -/
def flip (bs : List UInt8) (i : Nat) : List UInt8 := bs.set (i / 8) (bs.getD (i / 8) 0 ^^^ UInt8.ofNat (2 ^ (i % 8)))
set_option maxRecDepth 100000 in
theorem len_flip (bs : List UInt8) (i : Nat) : (flip bs i).length = bs.length := by simp [flip]
set_option maxRecDepth 100000 in
theorem byte_flip : ∀ c : Fin 256, ∀ j k : Fin 8, ((UInt8.ofNat c.val ^^^ UInt8.ofNat (2 ^ j.val)).toNat.testBit k.val) = (if k = j then !((UInt8.ofNat c.val).toNat.testBit k.val) else (UInt8.ofNat c.val).toNat.testBit k.val) := by
  decide +kernel
set_option maxRecDepth 100000 in
theorem byte_flip' (c : UInt8) {j k : Nat} (hj : j < 8) (hk : k < 8) : ((c ^^^ UInt8.ofNat (2 ^ j)).toNat.testBit k) = (if k = j then !(c.toNat.testBit k) else c.toNat.testBit k) := by
  have h := byte_flip ⟨c.toNat, c.toNat_lt⟩ ⟨j, hj⟩ ⟨k, hk⟩
  simp only [UInt8.ofNat_toNat, Fin.mk.injEq] at h
  exact h
set_option maxRecDepth 100000 in
theorem bit_flip (bs : List UInt8) {i : Nat} (j : Nat) (hi : i / 8 < bs.length) : bit (flip bs i) j = if j = i then !bit bs j else bit bs j := by
  unfold bit flip
  by_cases h : j / 8 = i / 8
  · have e1 : (bs.set (i / 8) (bs.getD (i / 8) 0 ^^^ UInt8.ofNat (2 ^ (i % 8)))).getD (j / 8) 0 = bs.getD (i / 8) 0 ^^^ UInt8.ofNat (2 ^ (i % 8)) := by
      rw [h, List.getD_eq_getElem?_getD, List.getElem?_set_self hi]; rfl
    rw [e1, byte_flip' _ (Nat.mod_lt _ (by decide)) (Nat.mod_lt _ (by decide)), h]
    by_cases hm : j % 8 = i % 8
    · have : j = i := by omega
      rw [if_pos hm, if_pos this]
    · have : j ≠ i := fun e => hm (by rw [e])
      rw [if_neg hm, if_neg this]
  · have hne : j ≠ i := fun e => h (by rw [e])
    rw [if_neg hne, List.getD_eq_getElem?_getD, List.getElem?_set_ne (fun e => h e.symm), List.getD_eq_getElem?_getD]
set_option maxRecDepth 100000 in
theorem maps_le {c : Nat} (h : c ≤ 4096) : maps c ≤ 3 := by unfold maps; omega
set_option maxRecDepth 100000 in
theorem maps_pos {c : Nat} (h : 1 ≤ c) : 1 ≤ maps c := by unfold maps; omega
set_option maxRecDepth 100000 in
theorem maps_lt {c k : Nat} (h : k < maps c) : 1920 * k < c := by unfold maps at h; omega
set_option maxRecDepth 100000 in
theorem cells_pos {c k : Nat} (h : k < maps c) : 1 ≤ cells c k := by have := maps_lt h; unfold cells size; omega
set_option maxRecDepth 100000 in
theorem cells_le (c k : Nat) : cells c k ≤ 240 := by unfold cells size; omega
/-- The bits of a map's cell that stand against it: a map that is not taken, a bit that means no page. -/
def wrong (c k : Nat) (bs : List UInt8) (i : Nat) : Bool := (decide (1920 * k + i < maps c) && !bit bs i) || (decide (c ≤ 1920 * k + i) && bit bs i)
def may (c k : Nat) (bs : List UInt8) : Bool := decide (bs.length = cells c k) && (List.range (8 * bs.length)).all fun i => !wrong c k bs i
/-- The least page that is not taken, within its map. -/
def isLeft (c k : Nat) (bs : List UInt8) (i : Nat) : Bool := !bit bs i && decide (1920 * k + i < c)
def least (c k : Nat) (bs : List UInt8) : Option Nat := (List.range (8 * bs.length)).find? (isLeft c k bs)
/-- The pages that are taken by a map. -/
def tak (k : Nat) (bs : List UInt8) (n : Nat) : List Int := ((List.range n).filter (bit bs)).map fun i => ((1920 * k + i : Nat) : Int)
def taken (k : Nat) (bs : List UInt8) : List Int := tak k bs (8 * bs.length)
set_option maxRecDepth 100000 in
theorem tak_more (k : Nat) (bs : List UInt8) (n : Nat) : tak k bs (n + 1) = if bit bs n then tak k bs n ++ [((1920 * k + n : Nat) : Int)] else tak k bs n := by
  unfold tak
  rw [List.range_succ, List.filter_append, List.map_append]
  cases h : bit bs n <;> simp [h]
set_option maxRecDepth 100000 in
theorem len_tak (k : Nat) (bs : List UInt8) (n : Nat) : (tak k bs n).length ≤ n := by
  unfold tak
  rw [List.length_map]
  exact Nat.le_trans (List.length_filter_le _ _) (by rw [List.length_range]; exact Nat.le_refl _)
/-- The first n bits turned. -/
def firsts (bs : List UInt8) (n : Nat) : List UInt8 := (List.range n).foldl flip bs
set_option maxRecDepth 100000 in
theorem firsts_more (bs : List UInt8) (n : Nat) : firsts bs (n + 1) = flip (firsts bs n) n := by
  unfold firsts
  rw [List.range_succ, List.foldl_append]
  rfl
theorem len_firsts (bs : List UInt8) : ∀ n, (firsts bs n).length = bs.length
  | 0 => rfl
  | n + 1 => by rw [firsts_more, len_flip, len_firsts bs n]
/-- A map's cell at first. -/
def first (c k : Nat) : List UInt8 := firsts (List.replicate (cells c k) 0) (min (maps c - 1920 * k) (8 * cells c k))
set_option maxRecDepth 100000 in
theorem len_first (c k : Nat) : (first c k).length = cells c k := by unfold first; rw [len_firsts, List.length_replicate]
/-- A map's page. -/
def pgP (k : Nat) (x : List UInt8) : M.Pg := ⟨k, 2, [x]⟩
def pg (k : Nat) (x : List UInt8) : List UInt8 := M.pbytes (pgP k x)
theorem pg_ok {k : Nat} {x : List UInt8} (hk : k < 2147483648) (hx : x.length ≤ 240) : (pgP k x).Ok := ⟨hk, by show (2 : UInt8) ≠ 0; decide, by show M.taken [x] ≤ 244; rw [M.taken_one]; omega⟩
theorem pg_read {k : Nat} {x : List UInt8} (hk : k < 2147483648) (hx : x.length ≤ 240) : M.readP (pg k x) = some (pgP k x) := M.read_pbytes (pg_ok hk hx)
theorem pg_len {k : Nat} {x : List UInt8} (hx : x.length ≤ 240) : (pg k x).length = 256 := M.len_pbytes (by show M.taken [x] ≤ 244; rw [M.taken_one]; omega)
theorem pg_kind {k : Nat} {x : List UInt8} (hk : k < 2147483648) (hx : x.length ≤ 240) : M.kindP (pg k x) = 2 := M.kind_put (pg_ok hk hx)
theorem pg_cells {k : Nat} {x : List UInt8} (hk : k < 2147483648) (hx : x.length ≤ 240) : M.cellsP (pg k x) = [x] := M.cells_put (pg_ok hk hx)
/-- What a page's bytes are as the k-th map. -/
def gm (c k : Nat) (bs : List UInt8) : Option (List UInt8) := if M.kindP bs = 2 then (match M.cellsP bs with
  | [x] => if may c k x then some x else none
  | _ => none) else none
set_option maxRecDepth 100000 in
theorem gm_some {c k : Nat} {bs x : List UInt8} (h : gm c k bs = some x) : M.kindP bs = 2 ∧ M.cellsP bs = [x] ∧ may c k x = true := by
  unfold gm at h
  split at h
  · rename_i h1
    split at h
    · rename_i y h2
      split at h
      · rename_i h3
        cases h
        exact ⟨h1, h2, h3⟩
      · cases h
    · cases h
  · cases h
set_option maxRecDepth 100000 in
theorem gm_pg {c k : Nat} {x : List UInt8} (hk : k < 2147483648) (hx : x.length ≤ 240) : gm c k (pg k x) = if may c k x then some x else none := by
  unfold gm
  rw [pg_kind hk hx, pg_cells hk hx]
  rfl
set_option maxRecDepth 100000 in
theorem may_len {c k : Nat} {x : List UInt8} (h : may c k x = true) : x.length = cells c k := by
  unfold may at h
  simp only [Bool.and_eq_true, decide_eq_true_eq] at h
  exact h.1
set_option maxRecDepth 100000 in
theorem may_bit {c k : Nat} {x : List UInt8} (h : may c k x = true) {i : Nat} (hi : i < 8 * x.length) : wrong c k x i = false := by
  unfold may at h
  simp only [Bool.and_eq_true, decide_eq_true_eq, List.all_eq_true, List.mem_range, Bool.not_eq_true'] at h
  exact h.2 i hi
set_option maxRecDepth 100000 in
theorem may_of {c k : Nat} {x : List UInt8} (hl : x.length = cells c k) (h : ∀ i, i < 8 * x.length → wrong c k x i = false) : may c k x = true := by
  unfold may
  simp only [Bool.and_eq_true, decide_eq_true_eq, List.all_eq_true, List.mem_range, Bool.not_eq_true']
  exact ⟨hl, h⟩

/-! ### A space's calls -/
def cnt (s : F.Po) : Nat := s.ct.toNat
/-- A map that is got: the answer. -/
def mapE (s : F.Po) (D : dSt) (k : Nat) : Nat := if F.getE s D k = 0 then (if (gm (cnt s) k (F.getB s D k)).isSome then 0 else 22) else F.getE s D k
def mapB (s : F.Po) (D : dSt) (k : Nat) : List UInt8 := if F.getE s D k = 0 then (gm (cnt s) k (F.getB s D k)).getD [] else []
/-- Format: r maps from k on. -/
def formatG : Nat → Nat → F.Po → Nat × F.Po
  | 0, _, s => (0, s)
  | r + 1, k, s => if F.putE s k (pg k (first (cnt s) k)) = 0 then formatG r (k + 1) (F.putS s k (pg k (first (cnt s) k))) else (F.putE s k (pg k (first (cnt s) k)), F.putS s k (pg k (first (cnt s) k)))
/-- Alloc: the number, the answer, the state. -/
def allocG (D : dSt) : Nat → Nat → F.Po → Int × Nat × F.Po
  | 0, _, s => (0, 30, s)
  | r + 1, k, s => if mapE s D k = 0 then (match least (cnt s) k (mapB s D k) with
    | none => allocG D r (k + 1) (F.getS s D k)
    | some i => if F.putE (F.getS s D k) k (pg k (flip (mapB s D k) i)) = 0 then (((1920 * k + i : Nat) : Int), 0, F.putS (F.getS s D k) k (pg k (flip (mapB s D k) i))) else (0, F.putE (F.getS s D k) k (pg k (flip (mapB s D k) i)), F.putS (F.getS s D k) k (pg k (flip (mapB s D k) i)))) else (0, mapE s D k, F.getS s D k)
/-- Free. -/
def freeG (D : dSt) (s : F.Po) (no : Int) : Nat × F.Po := if no < (maps (cnt s) : Int) ∨ s.ct ≤ no then (2, s) else
  (if mapE s D (no.toNat / 1920) = 0 then (if bit (mapB s D (no.toNat / 1920)) (no.toNat % 1920) then (F.putE (F.getS s D ((no.toNat / 1920 : Nat) : Int)) ((no.toNat / 1920 : Nat) : Int) (pg (no.toNat / 1920) (flip (mapB s D (no.toNat / 1920)) (no.toNat % 1920))), F.putS (F.getS s D ((no.toNat / 1920 : Nat) : Int)) ((no.toNat / 1920 : Nat) : Int) (pg (no.toNat / 1920) (flip (mapB s D (no.toNat / 1920)) (no.toNat % 1920)))) else (40, F.getS s D ((no.toNat / 1920 : Nat) : Int))) else (mapE s D (no.toNat / 1920), F.getS s D ((no.toNat / 1920 : Nat) : Int)))
/-- Taken. -/
def takenG (D : dSt) : Nat → Nat → F.Po → List Int → List Int × Nat × F.Po
  | 0, _, s, l => (l, 0, s)
  | r + 1, k, s, l => if mapE s D k = 0 then takenG D r (k + 1) (F.getS s D k) (l ++ taken k (mapB s D k)) else ([], mapE s D k, F.getS s D k)
set_option maxRecDepth 100000 in
theorem get_ct (s : F.Po) (D : dSt) (k : Int) : cnt (F.getS s D k) = cnt s := by unfold cnt; rw [(F.get_same s D k).2.1]
set_option maxRecDepth 100000 in
theorem put_ct (s : F.Po) (k : Int) (bs : List UInt8) : cnt (F.putS s k bs) = cnt s := by unfold cnt; rw [(F.put_same s k bs).2.1]
set_option maxRecDepth 100000 in
theorem mapB_may {s : F.Po} {D : dSt} {k : Nat} (h : mapE s D k = 0) : F.getE s D k = 0 ∧ gm (cnt s) k (F.getB s D k) = some (mapB s D k) ∧ may (cnt s) k (mapB s D k) = true ∧ M.cellsP (F.getB s D k) = [mapB s D k] ∧ M.kindP (F.getB s D k) = 2 := by
  unfold mapE at h
  split at h
  · rename_i h1
    have h2 : (gm (cnt s) k (F.getB s D k)).isSome = true := by
      cases hq : (gm (cnt s) k (F.getB s D k)).isSome with
      | true => rfl
      | false => rw [hq] at h; cases h
    obtain ⟨x, hx⟩ := Option.isSome_iff_exists.1 h2
    have e : mapB s D k = x := by unfold mapB; rw [if_pos h1, hx]; rfl
    rw [e]
    obtain ⟨a, b, c⟩ := gm_some hx
    exact ⟨h1, hx, c, b, a⟩
  · rename_i h1
    exact absurd h h1
end Go.Proofs.YtjlennpoaefllaaGreatDoor.G

/- The small functions of a space: shares, place, isTaken, turn. -/
namespace Go.Proofs.YtjlennpoaefllaaGreatDoor
open Go.RowKit

set_option maxRecDepth 100000 in
theorem pow8 (i : Nat) : (2 : Int) ^ (i % 8) % 256 = ((2 ^ (i % 8) : Nat) : Int) := by
  have h : i % 8 < 8 := Nat.mod_lt _ (by decide)
  generalize i % 8 = j at *
  match j, h with
  | 0, _ => rfl
  | 1, _ => rfl
  | 2, _ => rfl
  | 3, _ => rfl
  | 4, _ => rfl
  | 5, _ => rfl
  | 6, _ => rfl
  | 7, _ => rfl
set_option maxRecDepth 100000 in
set_option maxHeartbeats 400000 in
theorem place_any (w : World) (i : Nat) (hi : i < 100000000) : Calls Tryz.prog 119 #[.int .i64 (i : Int)] w (fun e w' => e = .returned (.tuple #[.int .i64 ((i % 1920 / 8 : Nat) : Int), .int .u8 ((2 ^ (i % 8) : Nat) : Int)]) ∧ ∃ n, w' = w.drewN n) := by
  go_enter Tryz.func119, Tryz.ntmps119
  go_upto_region 2 with fail
  go_quiet (fail)
  rw [pow8]
  go_wp2_with fail
  go_ret2
  exact ⟨rfl, _, rfl⟩
set_option maxRecDepth 100000 in
set_option maxHeartbeats 400000 in
theorem shares_map (w : World) (n : Nat) (hn : n < 1000000) : Calls Tryz.prog 77 #[.int .i64 (n : Int), .int .i64 1920] w (Tells (.int .i64 ((G.maps n : Nat) : Int)) w) := by
  have e : ((G.maps n : Nat) : Int) = ((n : Int) + 1919) / 1920 := by unfold G.maps; rfl
  rw [e]
  go_enter Tryz.func77, Tryz.ntmps77
  go_wp2_with fail
  go_ret
  exact ⟨congrArg (fun z => Ending.returned (Value.int .i64 z)) (by omega), rfl⟩
set_option maxRecDepth 100000 in
set_option maxHeartbeats 400000 in
theorem shares_byte (w : World) (n : Nat) (hn : n < 1000000) : Calls Tryz.prog 77 #[.int .i64 (n : Int), .int .i64 8] w (Tells (.int .i64 (((n + 7) / 8 : Nat) : Int)) w) := by
  have e : (((n + 7) / 8 : Nat) : Int) = ((n : Int) + 7) / 8 := rfl
  rw [e]
  go_enter Tryz.func77, Tryz.ntmps77
  go_wp2_with fail
  go_ret
  exact ⟨congrArg (fun z => Ending.returned (Value.int .i64 z)) (by omega), rfl⟩
set_option maxRecDepth 100000 in
theorem and_bit : ∀ c : Fin 256, ∀ j : Fin 8, (bits BinOp.and IntKind.u8 ((c.val : Nat) : Int) ((2 ^ j.val : Nat) : Int) != 0) = c.val.testBit j.val := by decide +kernel
set_option maxRecDepth 100000 in
theorem xor_bit : ∀ c : Fin 256, ∀ j : Fin 8, bits BinOp.xor IntKind.u8 ((c.val : Nat) : Int) ((2 ^ j.val : Nat) : Int) = (((UInt8.ofNat c.val ^^^ UInt8.ofNat (2 ^ j.val)).toNat : Nat) : Int) := by decide +kernel
theorem and_bit' (c : UInt8) (i : Nat) : (bits BinOp.and IntKind.u8 ((c.toNat : Nat) : Int) ((2 ^ (i % 8) : Nat) : Int) != 0) = c.toNat.testBit (i % 8) := and_bit ⟨c.toNat, c.toNat_lt⟩ ⟨i % 8, Nat.mod_lt _ (by decide)⟩
set_option maxRecDepth 100000 in
theorem xor_bit' (c : UInt8) (i : Nat) : bits BinOp.xor IntKind.u8 ((c.toNat : Nat) : Int) ((2 ^ (i % 8) : Nat) : Int) = (((c ^^^ UInt8.ofNat (2 ^ (i % 8))).toNat : Nat) : Int) := by
  have := xor_bit ⟨c.toNat, c.toNat_lt⟩ ⟨i % 8, Nat.mod_lt _ (by decide)⟩
  simpa using this
set_option maxRecDepth 100000 in
theorem getD_some {bs : List UInt8} {z : Nat} {c : UInt8} (h : bs[z]? = some c) : bs.getD z 0 = c := by rw [List.getD_eq_getElem?_getD, h]; rfl
set_option maxRecDepth 100000 in
theorem mod_mod8 (i : Nat) : i % 1920 % 8 = i % 8 := by omega
set_option maxRecDepth 100000 in
set_option maxHeartbeats 400000 in
theorem isTaken_any (w : World) (g o cap : Nat) (bs : List UInt8) (len : Nat) (hl : bs.length = len) (i : Nat) (hi : i < 100000000) (hA : At w (some ⟨g, o, none⟩) bs) (hb : i % 1920 / 8 < len) : Calls Tryz.prog 75 #[.slice (some ⟨g, o, none⟩) len cap, .int .i64 (i : Int)] w (fun e w' => e = .returned (.bool (G.bit bs (i % 1920))) ∧ ∃ n, w' = w.drewN n) := by
  have HP := hid (place_any w i hi)
  obtain ⟨z, hz⟩ : ∃ z, z = i % 1920 / 8 := ⟨_, rfl⟩
  rw [← hz] at HP hb
  obtain ⟨c, hc⟩ : ∃ c, bs[z]? = some c := ⟨_, List.getElem?_eq_getElem (by omega)⟩
  obtain ⟨b', o', e', hcell⟩ := hA z c hc
  cases e'
  obtain ⟨y, hy⟩ : ∃ y : Nat, y = 2 ^ (i % 8) := ⟨_, rfl⟩
  rw [← hy] at HP
  obtain ⟨v, hv⟩ : ∃ v : Nat, v = c.toNat := ⟨_, rfl⟩
  rw [← hv] at hcell
  have hd : ∀ n, (w.drewN n).cell? ⟨g, o + z, none⟩ = some (.int .u8 (v : Int)) := fun n => hcell
  have HZ := hid hz
  have HY := hid hy
  have HV := hid hv
  have HCC := hid hc
  clear hz hy hv hc hA
  go_enter Tryz.func75, Tryz.ntmps75
  go_upto_region 2 with (go_at_call 119; refine HP.out.mono ?_; rintro e w1 ⟨rfl, n, hw⟩; subst hw)
  have hd1 := hd n
  clear hd hcell
  go_wp2_with fail
  go_ret
  refine ⟨congrArg (fun b => Ending.returned (Value.bool b)) ?_, _, rfl⟩
  rw [HV.out, HY.out, and_bit']
  unfold G.bit
  rw [mod_mod8, ← HZ.out, getD_some HCC.out]
theorem Touch.drewN' {T : Nat → Prop} (w : World) (n : Nat) : Touch T w (w.drewN n) := ⟨rfl, rfl, rfl, Nat.le_refl _, fun _ _ _ => rfl⟩
set_option maxRecDepth 100000 in
set_option maxHeartbeats 400000 in
/-- A bit is turned in a block of bytes. -/
theorem turn_any (w : World) (g cap : Nat) (cur : Array Value) (bs : List UInt8) (len : Nat) (hl : bs.length = len) (i : Nat) (hi : i < 100000000) (hg : w.heap[g]? = some (.cells cur 5 (0, 0))) (hs : cur.toList.take len = S bs) (hb : i % 1920 / 8 < len) : Calls Tryz.prog 73 #[.slice (some ⟨g, 0, none⟩) len cap, .int .i64 (i : Int)] w (fun e w' => (∃ v, e = .returned v) ∧ ∃ cur', cur'.size = cur.size ∧ cur'.toList.take len = S (G.flip bs (i % 1920)) ∧ w'.heap[g]? = some (.cells cur' 5 (0, 0)) ∧ Touch (fun k => k = g) w w') := by
  have HP := hid (place_any w i hi)
  obtain ⟨z, hz⟩ : ∃ z, z = i % 1920 / 8 := ⟨_, rfl⟩
  rw [← hz] at HP hb
  obtain ⟨c, hc⟩ : ∃ c, bs[z]? = some c := ⟨_, List.getElem?_eq_getElem (by omega)⟩
  have hcur : cur[z]? = some (.int .u8 (c.toNat : Int)) := by
    have h5 : (S bs)[z]? = some (.int .u8 (c.toNat : Int)) := by rw [S_get, hc]; rfl
    rw [← hs, List.getElem?_take] at h5
    rw [if_pos hb] at h5
    rw [← Array.getElem?_toList]
    exact h5
  have hcell : w.cell? ⟨g, z, none⟩ = some (.int .u8 (c.toNat : Int)) := by rw [cellOf hg]; exact hcur
  have hfz : w.frozen? ⟨g, z, none⟩ = false := by simp [World.frozen?, hg]
  obtain ⟨y, hy⟩ : ∃ y : Nat, y = 2 ^ (i % 8) := ⟨_, rfl⟩
  rw [← hy] at HP
  obtain ⟨v, hv⟩ : ∃ v : Nat, v = c.toNat := ⟨_, rfl⟩
  rw [← hv] at hcell
  have hd : ∀ n, (w.drewN n).cell? ⟨g, z, none⟩ = some (.int .u8 (v : Int)) := fun n => hcell
  have hf : ∀ n, (w.drewN n).frozen? ⟨g, z, none⟩ = false := fun n => hfz
  have HZ := hid hz
  have HY := hid hy
  have HV := hid hv
  have HCC := hid hc
  have HG := hid (And.intro hg (And.intro hs hcur))
  clear hz hy hv hc hg hs hcur hcell hfz
  go_enter Tryz.func73, Tryz.ntmps73
  go_upto_region 1 with (go_at_call 119; refine HP.out.mono ?_; rintro e w1 ⟨rfl, n, hw⟩; subst hw)
  have hd1 := hd n
  have hf1 := hf n
  clear hd hf
  go_wp2_with fail
  go_end0
  refine ⟨⟨_, rfl⟩, _, ?_, ?_, heap_setCell_same (w.drewN n) g z _ 5 _ HG.out.1, Touch.setCell (T := fun j => j = g) (Touch.drewN' w n) (p := ⟨g, z, none⟩) (fun _ => rfl) _⟩
  · simp
  · rw [Array.toList_setIfInBounds, List.take_set, HG.out.2.1]
    unfold G.flip
    rw [mod_mod8, ← HZ.out, getD_some HCC.out, S, S, List.map_set, HV.out, HY.out, xor_bit']
    rfl
end Go.Proofs.YtjlennpoaefllaaGreatDoor

/- A space in memory: its pool's number of pages, its maps. -/
namespace Go.Proofs.YtjlennpoaefllaaGreatDoor
open Go.RowKit

abbrev SBox (p : Nat) : Obj := .cells #[Ptr p] 58 (0, 0)
/-- At sp lies a space over the pool p of c pages. -/
structure Spc (w : World) (sp p c : Nat) : Prop where
  box : w.heap[sp]? = some (SBox p)
  pool : ∃ dp s hb y, w.heap[p]? = some (PBox dp s hb y) ∧ s.ct = (c : Int)
set_option maxRecDepth 100000 in
theorem Spc.lt {w : World} {sp p c : Nat} (h : Spc w sp p c) : sp < w.heap.size ∧ p < w.heap.size := by
  obtain ⟨h1, dp, s, hb, y, h2, _⟩ := h
  exact ⟨(Array.getElem?_eq_some_iff.1 h1).1, (Array.getElem?_eq_some_iff.1 h2).1⟩
set_option maxRecDepth 100000 in
theorem Spc.below {w w' : World} {sp p c n : Nat} (h : Spc w sp p c) (hB : Below n w w') (h1 : sp < n) (h2 : p < n) : Spc w' sp p c := by
  obtain ⟨hb, dp, s, hb', y, h3, h4⟩ := h
  exact ⟨by rw [hB.block sp h1]; exact hb, dp, s, hb', y, by rw [hB.block p h2]; exact h3, h4⟩
theorem Spc.adds {w w' : World} {sp p c : Nat} (h : Spc w sp p c) (hA : Adds w w') : Spc w' sp p c := h.below hA.below h.lt.1 h.lt.2
set_option maxRecDepth 100000 in
theorem Spc.touch {w w' : World} {sp p c : Nat} {T : Nat → Prop} (h : Spc w sp p c) (hT : Touch T w w') (h1 : ¬ T sp) (h2 : ¬ T p) : Spc w' sp p c := by
  have hl := h.lt
  obtain ⟨hb, dp, s, hb', y, h3, h4⟩ := h
  exact ⟨by rw [hT.block sp hl.1 h1]; exact hb, dp, s, hb', y, by rw [hT.block p hl.2 h2]; exact h3, h4⟩
set_option maxRecDepth 100000 in
set_option maxHeartbeats 400000 in
theorem count_box {w : World} {dp p : Nat} {s : F.Po} {hb : Nat} {y : Int} (h : w.heap[p]? = some (PBox dp s hb y)) : Calls Tryz.prog 74 #[Ptr p] w (Tells (.int .i64 s.ct) w) := by
  have HM := hid (bmade_yes w p dp (cellOf h 0))
  have c2 : w.cell? ⟨p, 2, none⟩ = some (.int .i64 s.ct) := cellOf h 2
  unfold Ptr at *
  clear h
  go_enter Tryz.func74, Tryz.ntmps74
  go_wp2_with (go_at_call 81; refine HM.out.mono ?_; rintro e _ ⟨rfl, hw⟩; rw [hw]; clear hw)
  go_ret
  exact ⟨rfl, rfl⟩
set_option maxRecDepth 100000 in
set_option maxHeartbeats 400000 in
theorem spool_any {w : World} {sp p : Nat} (h : w.heap[sp]? = some (SBox p)) : Calls Tryz.prog 15 #[Ptr sp] w (Tells (Ptr p) w) := by
  have c0 : w.cell? ⟨sp, 0, none⟩ = some (Ptr p) := by rw [cellOf h]; rfl
  go_enter Tryz.func15, Tryz.ntmps15
  go_wp2_with fail
  go_ret
  exact ⟨rfl, rfl⟩
set_option maxRecDepth 100000 in
theorem scount_any {w : World} {sp p c : Nat} (h : Spc w sp p c) : Calls Tryz.prog 74 #[Ptr p] w (Tells (.int .i64 (c : Int)) w) := by
  obtain ⟨_, dp, s, hb, y, h2, h3⟩ := h
  rw [← h3]
  exact count_box h2
set_option maxRecDepth 100000 in
set_option maxHeartbeats 400000 in
theorem smaps_any {w : World} {sp p c : Nat} (h : Spc w sp p c) (hc : c ≤ 4096) : Calls Tryz.prog 36 #[Ptr sp] w (Tells (.int .i64 ((G.maps c : Nat) : Int)) w) := by
  have H1 := hid (spool_any h.box)
  have H2 := hid (scount_any h)
  have H3 := hid (shares_map w c (by omega))
  clear h
  go_enter Tryz.func36, Tryz.ntmps36
  go_wp2_with (first
    | (go_at_call 15; refine H1.out.mono ?_; rintro e w1 ⟨rfl, rfl⟩)
    | (go_at_call 74; refine H2.out.mono ?_; rintro e w1 ⟨rfl, rfl⟩)
    | (go_at_call 77; refine H3.out.mono ?_; rintro e w1 ⟨rfl, rfl⟩))
  go_ret
  exact ⟨rfl, rfl⟩
set_option maxRecDepth 100000 in
set_option maxHeartbeats 400000 in
theorem smade_any {w : World} {sp p c : Nat} (h : Spc w sp p c) (hc : 1 ≤ c) : Calls Tryz.prog 35 #[Ptr sp] w (Tells (.bool true) w) := by
  have H1 := hid (spool_any h.box)
  have H2 := hid (scount_any h)
  clear h
  go_enter Tryz.func35, Tryz.ntmps35
  go_wp2_with (first
    | (go_at_call 15; refine H1.out.mono ?_; rintro e w1 ⟨rfl, rfl⟩)
    | (go_at_call 74; refine H2.out.mono ?_; rintro e w1 ⟨rfl, rfl⟩))
  go_ret
  exact ⟨by simp; omega, rfl⟩
set_option maxRecDepth 100000 in
set_option maxHeartbeats 400000 in
theorem scell_any {w : World} {sp p c : Nat} (h : Spc w sp p c) (hc : c ≤ 4096) {k : Nat} (hk : k < G.maps c) : Calls Tryz.prog 79 #[Ptr sp, .int .i64 (k : Int)] w (Tells (.int .i64 ((G.cells c k : Nat) : Int)) w) := by
  have hl := G.maps_lt hk
  have h3 := G.maps_le hc
  have c0 : w.cell? ⟨sp, 0, none⟩ = some (Ptr p) := by rw [cellOf h.box]; rfl
  have H2 := hid (scount_any h)
  have H3 := hid (shares_byte w (G.size c k) (by unfold G.size; omega))
  clear h
  have q1 : 0 < (c : Int) - 1920 * (k : Int) := by omega
  have q2 : (c : Int) < 5000 := by omega
  have q3 : (k : Int) < 3 := by omega
  have HZ : min ((c : Int) - 1920 * (k : Int)) 1920 = ((G.size c k : Nat) : Int) := by unfold G.size; omega
  clear hl h3 hk hc
  go_enter Tryz.func79, Tryz.ntmps79
  go_wp2_with (first
    | (go_at_call 74; refine H2.out.mono ?_; rintro e w1 ⟨rfl, rfl⟩)
    | (go_at_call 77; refine H3.out.mono ?_; rintro e w1 ⟨rfl, rfl⟩))
  go_ret
  exact ⟨rfl, rfl⟩
end Go.Proofs.YtjlennpoaefllaaGreatDoor

/- The bits of a map's cell, gone through by a range over a function: the iterator's contract. -/
namespace Go.Proofs.YtjlennpoaefllaaGreatDoor
open Go.RowKit Go.Shelf
attribute [local go_sem] Oper.semAt_some

/-- What has come when n rounds are over. -/
def Ups {α : Type} (f : Nat → Bool → α) (V : Nat → Bool → Prop) (n : Nat) (xs : List α) : Prop := xs.length = n ∧ ∀ j, j < n → ∃ b, V j b ∧ xs[j]? = some (f j b)
theorem Ups.nil {α : Type} (f : Nat → Bool → α) (V : Nat → Bool → Prop) : Ups f V 0 [] := ⟨rfl, fun j hj => by cases hj⟩
set_option maxRecDepth 100000 in
theorem Ups.more {α : Type} {f : Nat → Bool → α} {V : Nat → Bool → Prop} {n : Nat} {xs : List α} (h : Ups f V n xs) {b : Bool} (hb : V n b) : Ups f V (n + 1) (xs ++ [f n b]) := by
  refine ⟨by rw [List.length_append, h.1]; rfl, fun j hj => ?_⟩
  by_cases q : j < n
  · obtain ⟨b', h1, h2⟩ := h.2 j q
    exact ⟨b', h1, by rw [List.getElem?_append_left (by rw [h.1]; exact q)]; exact h2⟩
  · obtain rfl : j = n := by omega
    exact ⟨b, hb, by rw [List.getElem?_append_right (by rw [h.1]; exact Nat.le_refl _), h.1, Nat.sub_self]; rfl⟩
theorem abides_adds {α : Type} {B : Nat} {J : List α → World → Prop} (h : AbidesFrom B J) {pre : List α} {W W' : World} (hA : Adds W W') (hJ : J pre W) : J pre W' :=
  h pre W W' none hJ ⟨hA.os, hA.tape, hA.output, hA.size, fun k hk _ => hA.block k hk id⟩ (fun r e => by cases e)

set_option maxRecDepth 100000 in
set_option maxHeartbeats 2000000 in
theorem bits1_stops {α : Type} {len cap k g o Bc Bk : Nat} (n : Nat) (hn : 1 ≤ n) (encs : α → Array Value) (f : Nat → Bool → α) (V : Nat → Bool → Prop)
    (hf : ∀ j b, j < 8 * len → encs (f j b) = #[.int .i64 ((1920 * k + j : Nat) : Int), .bool b]) (G0 : World → Prop) (Kp : World → World → Prop) (w : World)
    (hG : ∀ W, G0 W → W.cell? ⟨Bc, 0, none⟩ = some (.slice (some ⟨g, o, none⟩) len cap) ∧ W.cell? ⟨Bk, 0, none⟩ = some (.int .i64 (k : Int)) ∧ ∃ bs, bs.length = len ∧ At W (some ⟨g, o, none⟩) bs ∧ ∀ j, j < 8 * len → V j (G.bit bs j))
    (hGw : ∀ W, Below w.heap.size w W → G0 W) (hGA : ∀ W W', G0 W → Adds W W' → G0 W') (hGK : ∀ W W', G0 W → Kp W W' → G0 W') (hlen : len ≤ 240) (hk : k ≤ 1000) :
    SeqStopsK Fence.wide n Tryz.prog 118 #[Ptr Bc, Ptr Bk] encs Kp (Ups f V (8 * len)) (fun pre => ∃ j, j < 8 * len ∧ Ups f V (j + 1) pre) (8 * len) w := fun l J Jx W hW hJ hJx hY h0 => by
  have hG0 := hGw W hW
  obtain ⟨c1, c2, bs0, _, _, _⟩ := hG W hG0
  refine callsIn_of_wp Tryz.func118 rfl trivial ?_ rfl
  simp only [Tryz.ntmps118, List.size_toArray, List.length_cons, List.length_nil, Nat.reduceAdd, Nat.reduceSub, Array.replicate_succ, Array.replicate_zero, List.push_toArray, List.append_toArray, List.nil_append, List.cons_append]
  gi_wp2
  clear c1 c2
  gi_loopw [9] (fun i wr => ∃ (j : Nat) (pre : List α), i = .int .i64 (j : Int) ∧ j ≤ 8 * len ∧ Hid (Ups f V j pre ∧ J pre wr ∧ G0 wr)) (fun i _ => 8 * len - (intOf i).toNat)
  case atStart =>
    exact ⟨0, [], rfl, Nat.zero_le _, Ups.nil f V, h0, hG0⟩
  case round =>
    obtain ⟨j, pre, rfl, hj, HI⟩ := hrel
    by_cases hlt : j < 8 * len
    · have hlt' : (j : Int) < 8 * (len : Int) := by omega
      obtain ⟨c1, c2, bs, hbl, hA, hV⟩ := hG wr HI.out.2.2
      have HT := isTaken_any wr g o cap bs len hbl (1920 * k + j) (by omega) hA (by omega)
      rw [show (1920 * k + j) % 1920 = j by omega, show ((1920 * k + j : Nat) : Int) = 1920 * (k : Int) + (j : Int) by omega] at HT
      have HT := hid HT
      have HV := hid (hV j hlt)
      generalize G.bit bs j = b at HT HV
      clear hA hV
      have hj2 : (j : Int) < 2000 := by omega
      have hk2 : (k : Int) ≤ 1000 := by omega
      gi_wp2_with (refine ⟨trivial, ?_⟩; gi_at_call 75; refine (callsIn_wide.2 HT.out).mono ?_; rintro e w1 ⟨rfl, m, hw⟩; have HA := hid (show Adds wr w1 by rw [hw]; exact adds_drewN wr m); clear hw; obtain ⟨fn, tmps, assign, body, hy, hR⟩ := hY pre (f j b) w1 (abides_adds hJ HA.out HI.out.2.1) (by rw [HI.out.1.1]; exact hlt); rw [hf j b hlt, show ((1920 * k + j : Nat) : Int) = 1920 * (k : Int) + (j : Int) by omega] at hy)
      refine hR.mono ?_
      rintro e W3 (⟨rfl, hJ3, hk3⟩ | ⟨rfl, hJx3⟩)
      · have HN := hid (And.intro (HI.out.1.more HV.out) (And.intro hJ3 (hGK _ _ (hGA _ _ HI.out.2.2 HA.out) hk3)))
        clear hJ3 hk3 hy hR
        gi_wp2
        go_roundw
        case rel => exact ⟨j + 1, pre ++ [f j b], by go_num, by omega, HN.out⟩
        case measure => simp [intOf]; omega
      · clear hy hR
        gi_wp2
        refine bodyPost_ret (results_none rfl _ _ _) rfl ?_
        exact ⟨⟨_, rfl⟩, .inr ⟨_, ⟨j, hlt, HI.out.1.more HV.out⟩, hJx3⟩⟩
    · obtain rfl : j = 8 * len := by omega
      gi_wp2
      go_end0
      exact ⟨⟨_, rfl⟩, .inl ⟨pre, HI.out.1, HI.out.2.1⟩⟩
end Go.Proofs.YtjlennpoaefllaaGreatDoor

/- A function that ranges over a map's bits: what its walk needs. -/
namespace Go.Proofs.YtjlennpoaefllaaGreatDoor
open Go.RowKit Go.Shelf
attribute [local go_sem] Oper.semAt_some

set_option maxRecDepth 100000 in
set_option maxHeartbeats 400000 in
theorem bits_any (w : World) (k : Nat) (v : Value) (hv : ∃ a n c, v = .slice a n c) : Calls Tryz.prog 71 #[.int .i64 (k : Int), v] w (fun e w' => e = .returned (.func (.func 118) #[] #[Ptr (w.heap.size + 1), Ptr w.heap.size]) ∧ w' = (w.alloc (.cells #[.int .i64 (k : Int)] 3)).alloc (.cells #[v] 43)) := by
  obtain ⟨a, n, c, rfl⟩ := hv
  go_enter Tryz.func71, Tryz.ntmps71
  go_wp2_with fail
  go_ret
  exact ⟨rfl, rfl⟩
/-- What the body of a function that holds a range over a function must achieve. -/
def pm (fn : Func) (R : Ending → World → Prop) : Exit → Act → World → Prop
  | .normal, a, w => LeavesInM Fence.wide 9 Tryz.prog fn a.tmps R a.defers .returning w
  | .ret, a, w => LeavesInM Fence.wide 9 Tryz.prog fn a.tmps R a.defers .returning w
  | _, _, _ => False
theorem pm_marks {fn : Func} {R : Ending → World → Prop} : ∀ (e : Exit) (a : Act) (w : World), pm fn R e a w → bodyPostM Fence.wide 9 Tryz.prog fn R e a w
  | .normal, _, _, h => h
  | .ret, _, _, h => h
  | .panic _, _, _, h => h.elim
  | .outgrown, _, _, h => h.elim
  | .exit _, _, _, h => h.elim
  | .goto _, _, _, h => h.elim
/-- A function that holds a range over a function, walked outside of it as any other. -/
theorem calls_marks {f : FuncId} {fn : Func} {c : Code} {args : Array Value} {w : World} {R : Ending → World → Prop} (hf : Tryz.prog.funcs[f]? = some fn) (hb : fn.body = some c)
    (h : c.wp Tryz.prog (pm fn R) { tmps := args ++ Array.replicate (fn.ntmps - args.size) undef, defers := [] } w) : Calls Tryz.prog f args w R :=
  (callsIn_wide (n := 9)).1 (callsIn_of_wp_marks hf hb trivial (wpIn_mono (wpIn_wide.2 h) pm_marks) rfl)
/-- What a round keeps: some blocks as they are. -/
def Kp3 (L : List Nat) (W W' : World) : Prop := ∀ j ∈ L, W'.heap[j]? = W.heap[j]?
theorem kp3_t {L : List Nat} {A B C : World} (h : Kp3 L A B) (k : Kp3 L B C) : Kp3 L A C := fun j hj => (k j hj).trans (h j hj)
theorem kp3_b {L : List Nat} {w : World} (hL : ∀ j ∈ L, j < w.heap.size) (W : World) (l : Nat) (o o' : Obj) (hl : w.heap.size ≤ l) (_ : W.heap[l]? = some o) (_ : o.isCells = false) (_ : o.isWalk = false) : Kp3 L W (W.putObj l o') := fun j hj => World.putObj_heap_other (by have := hL j hj; omega)
theorem kp3_adds {L : List Nat} {W W' : World} (hL : ∀ j ∈ L, j < W.heap.size) (hA : Adds W W') : Kp3 L W W' := fun j hj => hA.block j (hL j hj) id
abbrev encX (x : Nat × Bool) : Array Value := #[.int .i64 (x.1 : Int), .bool x.2]
abbrev fX (k : Nat) (j : Nat) (b : Bool) : Nat × Bool := (1920 * k + j, b)
set_option maxRecDepth 100000 in
/-- The bits as they lie in memory. -/
theorem bits_reads {w wN : World} {g o len cap k : Nat} {bs : List UInt8} (hN : wN = (w.alloc (.cells #[.int .i64 (k : Int)] 3)).alloc (.cells #[.slice (some ⟨g, o, none⟩) len cap] 43)) (hA : At w (some ⟨g, o, none⟩) bs) (hl : bs.length = len) (h1 : 1 ≤ len) (hlen : len ≤ 240) (hk : k ≤ 1000) (n : Nat) (hn : 1 ≤ n) :
    SeqStopsK Fence.wide n Tryz.prog 118 #[Ptr (w.heap.size + 1), Ptr w.heap.size] encX (Kp3 [g, w.heap.size, w.heap.size + 1]) (Ups (fX k) (fun j b => b = G.bit bs j) (8 * len)) (fun pre => ∃ j, j < 8 * len ∧ Ups (fX k) (fun j b => b = G.bit bs j) (j + 1) pre) (8 * len) wN := by
  have hg : g < w.heap.size := by
    obtain ⟨b', o', e, hc⟩ := hA 0 (bs[0]'(by omega)) (by simp)
    cases e
    exact World.block_lt_of_cell? w _ hc
  have hz : wN.heap.size = w.heap.size + 2 := by rw [hN]; simp
  have hlt : ∀ W, Kp3 [g, w.heap.size, w.heap.size + 1] wN W → ∀ j ∈ [g, w.heap.size, w.heap.size + 1], j < W.heap.size := fun W hW j hj => by
    have h2 := hW j hj
    rw [Array.getElem?_eq_getElem (by simp at hj; omega : j < wN.heap.size)] at h2
    exact (Array.getElem?_eq_some_iff.1 h2).1
  refine bits1_stops (len := len) (cap := cap) (k := k) (g := g) (o := o) n hn encX (fX k) _ (fun j b _ => rfl) (fun W => Kp3 [g, w.heap.size, w.heap.size + 1] wN W) _ wN (fun W hW => ?_) (fun W hW j hj => hW.block j (by simp at hj; omega)) (fun W W' h hA => kp3_t h (kp3_adds (hlt W h) hA)) (fun W W' h hK => kp3_t h hK) hlen hk
  have e0 := hW g (by simp)
  have e1 := hW w.heap.size (by simp)
  have e2 := hW (w.heap.size + 1) (by simp)
  refine ⟨?_, ?_, bs, hl, hA.block (fun b' o' e hb => ?_), fun j _ => rfl⟩
  · rw [World.cell?_of_block (w := wN) e2, hN, cellOf (heap_alloc2_new w _ _)]; rfl
  · rw [World.cell?_of_block (w := wN) e1, hN, cellOf (heap_alloc2_old w _ _)]; rfl
  · cases e
    rw [e0, hN, Below.heap_alloc _ _ _ (by simp; omega), Below.heap_alloc _ _ _ hg]
set_option maxRecDepth 100000 in
theorem box2 (wA : World) (t : TypeId) (u v : Value) : Boxed ((wA.alloc (.cells #[u] t)).alloc (.cells #[v] t)).drew wA.heap.size t u ∧ Boxed ((wA.alloc (.cells #[u] t)).alloc (.cells #[v] t)).drew (wA.heap.size + 1) t v := by
  have h := Boxed.new (wA.alloc (.cells #[u] t)) t v
  rw [World.size_alloc] at h
  exact ⟨(Boxed.new wA t u).alloc _, h⟩
end Go.Proofs.YtjlennpoaefllaaGreatDoor

/- mayBe: a map's bits gone through. -/
namespace Go.Proofs.YtjlennpoaefllaaGreatDoor
open Go.RowKit Go.Shelf
attribute [local go_sem] Oper.semAt_some

/-- A bit that stands against a map, of a page's number. -/
def wrongX (c : Nat) (x : Nat × Bool) : Bool := (decide (x.1 < G.maps c) && !x.2) || (decide (c ≤ x.1) && x.2)
/-- Between two rounds of mayBe; behind one that leaves. -/
def MayI (c N M N6 : Nat) (w : World) (pre : List (Nat × Bool)) (W : World) : Prop := (∀ x ∈ pre, wrongX c x = false) ∧ Boxed W N 3 (.int .i64 ((G.maps c : Nat) : Int)) ∧ Boxed W M 3 (.int .i64 (c : Int)) ∧ Boxed W N6 4 (.bool false) ∧ Below w.heap.size w W
def MayX (c N6 : Nat) (w : World) (cd : Code) (pre : List (Nat × Bool)) (W : World) : Prop := cd = .ret ∧ (∃ x ∈ pre, wrongX c x = true) ∧ Boxed W N6 4 (.bool false) ∧ Below w.heap.size w W
set_option maxRecDepth 100000 in
set_option maxHeartbeats 2000000 in
theorem smay_any {w : World} {sp p c : Nat} (h : Spc w sp p c) (hc : c ≤ 4096) {k : Nat} (hk : k < G.maps c) (a : Option Addr) (bs : List UInt8) (len cap : Nat) (hl : bs.length = len) (hA : At w a bs) (hlen : len ≤ 1000000) : Calls Tryz.prog 117 #[Ptr sp, .int .i64 (k : Int), .slice a len cap] w (Adding (.bool (G.may c k bs)) w) := by
  have h3 := G.maps_le hc
  have hcp := G.cells_pos hk
  have hc240 := G.cells_le c k
  by_cases q : len = G.cells c k
  · obtain ⟨b, o, ea⟩ : ∃ b o, a = some ⟨b, o, none⟩ := by
      obtain ⟨b, o, ea, _⟩ := hA 0 (bs[0]'(by omega)) (by simp)
      exact ⟨b, o, ea⟩
    subst ea
    have HS := hid h
    have HC := hid (fun w' (hA' : Adds w w') => scell_any (h.adds hA') hc hk)
    have HM := hid (fun w' (hA' : Adds w w') => smaps_any (h.adds hA') hc)
    have HN := hid (fun w' (hA' : Adds w w') => scount_any (h.adds hA'))
    have c0 : ∀ w', Adds w w' → w'.cell? ⟨sp, 0, none⟩ = some (Ptr p) := fun w' hA' => by rw [cellOf (h.adds hA').box]; rfl
    rw [← q] at HC
    have HQ := hid q
    have HL := hid (And.intro hl hlen)
    have HAt := hid hA
    have HK := hid (And.intro hk (And.intro hc (And.intro h3 (And.intro hcp hc240))))
    clear h hk hc h3 hcp hc240 q hl hlen hA
    refine calls_marks Tryz.func117 rfl ?_
    simp only [Tryz.ntmps117, List.size_toArray, List.length_cons, List.length_nil, Nat.reduceAdd, Nat.reduceSub, Array.replicate_succ, Array.replicate_zero, List.push_toArray, List.append_toArray, List.nil_append, List.cons_append]
    go_upto_region 3 with (go_at_call 79; refine (HC.out _ ((Touch.refl _ w).alloc _)).mono ?_; rintro e w1 ⟨rfl, rfl⟩)
    obtain ⟨N6, hN6⟩ : ∃ N6, N6 = w.heap.size := ⟨_, rfl⟩
    obtain ⟨wA, hwA⟩ : ∃ wA, wA = w.alloc (Obj.cells #[Value.bool false] 4) := ⟨_, rfl⟩
    have H6 := hid (show Boxed wA N6 4 (.bool false) ∧ Adds w wA ∧ wA.heap.size = w.heap.size + 1 ∧ N6 = w.heap.size by rw [hwA, hN6]; exact ⟨Boxed.new w 4 _, (Touch.refl _ w).alloc _, by simp, rfl⟩)
    rw [← hwA, ← hN6]
    clear hN6 hwA
    have c1 : wA.drew.cell? ⟨sp, 0, none⟩ = some (Ptr p) := c0 _ H6.out.2.1.drew
    have c2 : ∀ o, (wA.drew.alloc o).cell? ⟨sp, 0, none⟩ = some (Ptr p) := fun o => c0 _ (H6.out.2.1.drew.alloc o)
    have c3 : ∀ o o', ((wA.drew.alloc o).alloc o').cell? ⟨sp, 0, none⟩ = some (Ptr p) := fun o o' => c0 _ ((H6.out.2.1.drew.alloc o).alloc o')
    have c4 : ∀ o, (wA.alloc o).drew.cell? ⟨sp, 0, none⟩ = some (Ptr p) := fun o => c0 _ (H6.out.2.1.alloc o).drew
    have c5 : ∀ o o', ((wA.alloc o).alloc o').drew.cell? ⟨sp, 0, none⟩ = some (Ptr p) := fun o o' => c0 _ ((H6.out.2.1.alloc o).alloc o').drew
    clear c0
    go_cut [7, 8] from 17 to 23 (fun v7 v8 wx => ∃ N M : Nat, v7 = .pointer (some ⟨N, 0, none⟩) ∧ v8 = .pointer (some ⟨M, 0, none⟩) ∧ Hid (Boxed wx N 3 (.int .i64 ((G.maps c : Nat) : Int)) ∧ Boxed wx M 3 (.int .i64 (c : Int)) ∧ Boxed wx N6 4 (.bool false) ∧ Adds w wx ∧ N6 < N ∧ N6 < M))
    case first =>
      go_region_with (first
        | (go_at_call 36; refine (HM.out _ (by first | exact H6.out.2.1.drew | exact (H6.out.2.1.alloc _).drew | exact ((H6.out.2.1.alloc _).alloc _).drew | exact H6.out.2.1.drew.alloc _ | exact (H6.out.2.1.drew.alloc _).alloc _)).mono ?_; rintro e w1 ⟨rfl, hw⟩; rw [hw]; clear hw)
        | (go_at_call 74; refine (HN.out _ (by first | exact H6.out.2.1.drew | exact (H6.out.2.1.alloc _).drew | exact ((H6.out.2.1.alloc _).alloc _).drew | exact H6.out.2.1.drew.alloc _ | exact (H6.out.2.1.drew.alloc _).alloc _)).mono ?_; rintro e w1 ⟨rfl, hw⟩; rw [hw]; clear hw))
      all_goals
        go_wp2_with fail
        go_meet
        first
          | exact ⟨_, _, rfl, rfl, (box2 wA 3 _ _).1, (box2 wA 3 _ _).2, (H6.out.1.alloc _).alloc _, ((H6.out.2.1.alloc _).alloc _).drew, by have := H6.out.2.2.1; have := H6.out.2.2.2; omega, by have := H6.out.2.2.1; have := H6.out.2.2.2; omega⟩
          | exact ⟨_, _, rfl, rfl, (box2 wA 3 _ _).2, (box2 wA 3 _ _).1, (H6.out.1.alloc _).alloc _, ((H6.out.2.1.alloc _).alloc _).drew, by have := H6.out.2.2.1; have := H6.out.2.2.2; omega, by have := H6.out.2.2.1; have := H6.out.2.2.2; omega⟩
    case rest =>
      obtain ⟨N, M, rfl, rfl, H7⟩ := hcut
      obtain ⟨wN, hwN⟩ : ∃ wN, wN = (wc.alloc (.cells #[.int .i64 (k : Int)] 3)).alloc (.cells #[.slice (some ⟨b, o, none⟩) len cap] 43) := ⟨_, rfl⟩
      have HB := hid (show Calls Tryz.prog 71 #[.int .i64 (k : Int), .slice (some ⟨b, o, none⟩) len cap] wc (fun e w' => e = .returned (.func (.func 118) #[] #[Ptr (wc.heap.size + 1), Ptr wc.heap.size]) ∧ w' = wN) by rw [hwN]; exact bits_any wc k _ ⟨_, _, _, rfl⟩)
      have HwN := hid hwN
      have hz := show wN.heap.size = wc.heap.size + 2 by rw [hwN]; simp
      have HAc := hid (HAt.out.adds H7.out.2.2.2.1)
      have H8 := hid (show Boxed wN N 3 (.int .i64 ((G.maps c : Nat) : Int)) ∧ Boxed wN M 3 (.int .i64 (c : Int)) ∧ Boxed wN N6 4 (.bool false) ∧ Below w.heap.size w wN by rw [hwN]; exact ⟨(H7.out.1.alloc _).alloc _, (H7.out.2.1.alloc _).alloc _, (H7.out.2.2.1.alloc _).alloc _, Adds.below ((H7.out.2.2.2.1.alloc _).alloc _)⟩)
      have hg : b < wc.heap.size := by
        obtain ⟨b', o', e, hc'⟩ := HAc.out 0 (bs[0]'(by have := HL.out.1; have := HQ.out; have := HK.out.2.2.2.1; omega)) (by simp)
        cases e
        exact World.block_lt_of_cell? wc _ hc'
      have h1w : w.heap.size ≤ wc.heap.size := H7.out.2.2.2.1.size
      clear hwN
      go_wp2_with (go_at_call 71; refine HB.out.mono ?_; rintro e w1 ⟨rfl, hw⟩; rw [hw]; clear hw)
      refine (wpIn_wide (n := 9)).1 (wpIn_rangeFunc_ownF (F := Fence.wide) (n := 9) rfl (by omega) (gf := 118) (lb := #[Ptr (wc.heap.size + 1), Ptr wc.heap.size]) rfl trivial (enters_of Tryz.func118 (by kernel_rfl) rfl)
        (bits_reads HwN.out HAc.out HL.out.1 (by rw [HQ.out]; exact HK.out.2.2.2.1) (by rw [HQ.out]; exact HK.out.2.2.2.2) (by have := HK.out.1; have := HK.out.2.2.1; omega) 8 (by omega)) (fun h k => kp3_t h k) (kp3_b (fun j hj => by simp at hj; omega)) (Below.refl _ _) (fun _ => rfl)
        (MayI c N M N6 w) (MayX c N6 w)
        (OwnFrom.and (ownFrom_pure _ _) (OwnFrom.and (Own.from (boxed_own N 3 (fun _ => _)) _) (OwnFrom.and (Own.from (boxed_own M 3 (fun _ => _)) _) (OwnFrom.and (Own.from (boxed_own N6 4 (fun _ => _)) _) (ownFrom_below (Nat.le_refl _) (by omega))))))
        (fun cd => OwnFrom.and (ownFrom_pure _ _) (OwnFrom.and (ownFrom_pure _ _) (OwnFrom.and (Own.from (boxed_own N6 4 (fun _ => _)) _) (ownFrom_below (Nat.le_refl _) (by omega)))))
        ⟨fun x hx => absurd hx List.not_mem_nil, H8.out⟩
        (fun x => { tmps := #[Ptr sp, Value.int IntKind.i64 (k : Int), Value.slice (some ⟨b, o, none⟩) len cap, undef, undef, undef, Value.pointer (some ⟨N6, 0, none⟩), Value.pointer (some ⟨N, 0, none⟩), Value.pointer (some ⟨M, 0, none⟩), .int .i64 (x.1 : Int), .bool x.2, Value.slice (some ⟨b, o, none⟩) len cap, Value.int IntKind.i64 (len : Int), Ptr sp, Value.int IntKind.i64 (k : Int), Value.int IntKind.i64 (len : Int), Value.bool false, u17, u18, u19, u20, u21, u22, u23, Value.int IntKind.i64 (k : Int), Value.slice (some ⟨b, o, none⟩) len cap, Value.func (Fn.func 118) #[] #[Ptr (wc.heap.size + 1), Ptr wc.heap.size], .int .i64 (x.1 : Int), .bool x.2, undef, undef, undef, undef, undef, undef, undef, undef, undef, undef, undef, undef, undef, undef, undef], defers := [] }) ?assign ?body ?done ?stop)
      case assign =>
        intro l x W K hK
        gi_wp2
        exact hK
      case body =>
        rintro l pre ⟨y, t⟩ W ⟨hw, b7, b8, b6, hB⟩ _
        have HW := hid (And.intro hw (And.intro b7 (And.intro b8 (And.intro b6 hB))))
        have c7 := b7.cell
        have c8 := b8.cell
        have c6 := b6.cell
        have f6 := b6.frozen
        clear hw b7 b8 b6 hB
        have HX := hid (show wrongX c (y, t) = ((decide (y < G.maps c) && !t) || (decide (c ≤ y) && t)) from rfl)
        have HSet := hid (fun (t : Bool) (ht : wrongX c (y, t) = true) => show KeepsOthers W (W.setCell ⟨N6, 0, none⟩ (.bool false)) ∧ MayX c N6 w .ret (pre ++ [(y, t)]) (W.setCell ⟨N6, 0, none⟩ (.bool false)) from
          ⟨KeepsOthers.setCell _ _ _, rfl, ⟨(y, t), by simp, ht⟩, HW.out.2.2.2.1.set _, HW.out.2.2.2.2.setCell (p := ⟨N6, 0, none⟩) (Nat.le_of_eq H6.out.2.2.2.symm) _⟩)
        have HOn := hid (fun (t : Bool) (ht : wrongX c (y, t) = false) => show KeepsOthers W W ∧ Kp3 [b, wc.heap.size, wc.heap.size + 1] W W ∧ MayI c N M N6 w (pre ++ [(y, t)]) W from
          ⟨KeepsOthers.refl _, fun _ _ => rfl, fun x hx => by
            rcases List.mem_append.1 hx with hx | hx
            · exact HW.out.1 x hx
            · rw [List.mem_singleton.1 hx]; exact ht, HW.out.2⟩)
        cases t
        · by_cases q1 : y < G.maps c
          · gi_wp2
            exact HSet.out _ (by rw [HX.out]; simp [q1])
          · by_cases q2 : c ≤ y
            · gi_wp2
              exact HOn.out _ (by rw [HX.out]; simp [q1])
            · gi_wp2
              exact HOn.out _ (by rw [HX.out]; simp [q1])
        · by_cases q1 : y < G.maps c
          · by_cases q2 : c ≤ y
            · gi_wp2
              exact HSet.out _ (by rw [HX.out]; simp [q2])
            · gi_wp2
              exact HOn.out _ (by rw [HX.out]; simp [q2])
          · by_cases q2 : c ≤ y
            · gi_wp2
              exact HSet.out _ (by rw [HX.out]; simp [q2])
            · gi_wp2
              exact HOn.out _ (by rw [HX.out]; simp [q2])
      case done =>
        rintro D xs W hD hS ⟨hw, b7, b8, b6, hB⟩ hK
        have hm : G.may c k bs = true := G.may_of (by rw [HL.out.1, HQ.out]) (fun i hi => by
          obtain ⟨b', e, hx⟩ := hS.2 i (by rw [← HL.out.1]; exact hi)
          have h2 := hw _ (List.mem_of_getElem? hx)
          rw [e] at h2
          exact h2)
        have HW := hid (And.intro b6 (And.intro hB (And.intro hK hD)))
        have c6 := b6.cell
        have f6 := b6.frozen
        rw [hm]
        clear b6 b7 b8 hB hK hw hS hD
        go_wp2_with fail
        have hK' := (KeepsOthers.setCell W ⟨N6, 0, none⟩ (.bool true)).same D _ HW.out.2.2.1 rfl
        refine ⟨by simp, .inl ⟨_, _, rfl, run_takeDeferred hK', ?_⟩⟩
        have hc5 := cell_kept (HW.out.1.set (.bool true)).cell (grownBy_putObj' _ D (.deferred none)) (fun r e => by cases e; exact ⟨_, hK', rfl⟩)
        refine ⟨.bool true, by simp [results, Tryz.f117, go_sem, hc5], by rw [hm], Touch.of_below ?_⟩
        exact (HW.out.2.1.setCell (p := ⟨N6, 0, none⟩) (Nat.le_of_eq H6.out.2.2.2.symm) _).trans (belowK_b (w := wN) (by omega) _ D _ _ HW.out.2.2.2 hK' rfl rfl)
      case stop =>
        rintro D cd pre W hD hSp ⟨rfl, hx, b6, hB⟩ hK
        have hm : G.may c k bs = false := by
          cases hq : G.may c k bs with
          | false => rfl
          | true =>
            obtain ⟨j, hj, hU⟩ := hSp
            obtain ⟨x, hx, hxw⟩ := hx
            obtain ⟨i, hi, rfl⟩ := List.mem_iff_getElem.1 hx
            obtain ⟨b', e, hx'⟩ := hU.2 i (by rw [hU.1] at hi; exact hi)
            rw [List.getElem?_eq_getElem hi] at hx'
            rw [Option.some.inj hx', e] at hxw
            have h2 := G.may_bit hq (i := i) (by rw [HL.out.1]; rw [hU.1] at hi; omega)
            rw [show wrongX c (fX k i (G.bit bs i)) = G.wrong c k bs i from rfl, h2] at hxw
            cases hxw
        have HW := hid (And.intro b6 (And.intro hB (And.intro hK hD)))
        rw [hm]
        clear b6 hB hK hx hSp hD
        refine (wpIn_wide (n := 9)).2 ?_
        go_wp2_with fail
        refine ⟨by simp, .inl ⟨_, _, rfl, run_takeDeferred HW.out.2.2.1, ?_⟩⟩
        have hc5 := cell_kept HW.out.1.cell (grownBy_putObj' _ D (.deferred none)) (fun r e => by cases e; exact ⟨_, HW.out.2.2.1, rfl⟩)
        refine ⟨.bool false, by simp [results, Tryz.f117, go_sem, hc5], rfl, Touch.of_below ?_⟩
        exact HW.out.2.1.trans (belowK_b (w := wN) (by omega) _ D _ _ HW.out.2.2.2 HW.out.2.2.1 rfl rfl)
  · have hm : G.may c k bs = false := by
      unfold G.may
      rw [hl]
      simp [q]
    have HC := hid (fun w' (hA' : Adds w w') => scell_any (h.adds hA') hc hk)
    have q' : ((len : Int) != ((G.cells c k : Nat) : Int)) = true := by simp; omega
    rw [hm]
    clear h hk hc h3 hcp hc240 q hl hlen hA hm
    refine calls_marks Tryz.func117 rfl ?_
    simp only [Tryz.ntmps117, List.size_toArray, List.length_cons, List.length_nil, Nat.reduceAdd, Nat.reduceSub, Array.replicate_succ, Array.replicate_zero, List.push_toArray, List.append_toArray, List.nil_append, List.cons_append]
    go_wp2_with (go_at_call 79; refine (HC.out _ ((Touch.refl _ w).alloc _)).mono ?_; rintro e w1 ⟨rfl, hw⟩; rw [hw]; clear hw)
    have hc5 : (w.alloc (Obj.cells #[Value.bool false] 4)).cell? ⟨w.heap.size, 0, none⟩ = some (.bool false) := (Boxed.new w 4 (.bool false)).cell
    exact ⟨.bool false, by simp [results, Tryz.f117, go_sem, hc5], rfl, (Touch.refl _ w).alloc _⟩
end Go.Proofs.YtjlennpoaefllaaGreatDoor
