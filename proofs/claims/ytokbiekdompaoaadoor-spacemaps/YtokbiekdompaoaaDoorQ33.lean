/- Texts put together: GMath, GLeaf, GSpace. -/
import Derived.Test.YtokbiekdompaoaaDoorQ31
import Derived.Test.YtokbiekdompaoaaDoorQ32
/- Which pages are taken, by definition: bits of bytes; each call of a space over a pool's state. -/
namespace Go.Proofs.YtokbiekdompaoaaDoor.G

/-- How many maps c pages have; of how many pages the k-th one tells; how many bytes it has. -/
def maps (c : Nat) : Nat := (c + 1919) / 1920
def size (c k : Nat) : Nat := min (c - 1920 * k) 1920
def cells (c k : Nat) : Nat := (size c k + 7) / 8
/-- The bit i of bytes. -/
def bit (bs : List UInt8) (i : Nat) : Bool := (bs.getD (i / 8) 0).toNat.testBit (i % 8)
/-- The bit i turned. -/
def flip (bs : List UInt8) (i : Nat) : List UInt8 := bs.set (i / 8) (bs.getD (i / 8) 0 ^^^ UInt8.ofNat (2 ^ (i % 8)))
set_option maxRecDepth 100000 in
theorem len_flip (bs : List UInt8) (i : Nat) : (flip bs i).length = bs.length := by simp [flip]
set_option maxRecDepth 100000 in
theorem byte_flip : ∀ c : Fin 256, ∀ j k : Fin 8, ((UInt8.ofNat c.val ^^^ UInt8.ofNat (2 ^ j.val)).toNat.testBit k.val) = (if k = j then !((UInt8.ofNat c.val).toNat.testBit k.val) else (UInt8.ofNat c.val).toNat.testBit k.val) := by
  decide +kernel
set_option maxRecDepth 100000 in
theorem byte_flip' (c : UInt8) {j k : Nat} (hj : j < 8) (hk : k < 8) : ((c ^^^ UInt8.ofNat (2 ^ j)).toNat.testBit k) = (if k = j then !(c.toNat.testBit k) else c.toNat.testBit k) := by
  have h := byte_flip ⟨c.toNat, c.toNat_lt⟩ ⟨j, hj⟩ ⟨k, hk⟩
  simp only [UInt8.ofNat_toNat, Fin.mk.injEq] at h
  exact h
set_option maxRecDepth 100000 in
theorem bit_flip (bs : List UInt8) {i : Nat} (j : Nat) (hi : i / 8 < bs.length) : bit (flip bs i) j = if j = i then !bit bs j else bit bs j := by
  unfold bit flip
  by_cases h : j / 8 = i / 8
  · have e1 : (bs.set (i / 8) (bs.getD (i / 8) 0 ^^^ UInt8.ofNat (2 ^ (i % 8)))).getD (j / 8) 0 = bs.getD (i / 8) 0 ^^^ UInt8.ofNat (2 ^ (i % 8)) := by
      rw [h, List.getD_eq_getElem?_getD, List.getElem?_set_self hi]; rfl
    rw [e1, byte_flip' _ (Nat.mod_lt _ (by decide)) (Nat.mod_lt _ (by decide)), h]
    by_cases hm : j % 8 = i % 8
    · have : j = i := by omega
      rw [if_pos hm, if_pos this]
    · have : j ≠ i := fun e => hm (by rw [e])
      rw [if_neg hm, if_neg this]
  · have hne : j ≠ i := fun e => h (by rw [e])
    rw [if_neg hne, List.getD_eq_getElem?_getD, List.getElem?_set_ne (fun e => h e.symm), List.getD_eq_getElem?_getD]
set_option maxRecDepth 100000 in
/-- Beyond the bytes there is no bit. -/
theorem bit_out {bs : List UInt8} {i : Nat} (h : 8 * bs.length ≤ i) : bit bs i = false := by
  unfold bit
  rw [List.getD_eq_getElem?_getD, List.getElem?_eq_none (by omega)]
  simp
set_option maxRecDepth 100000 in
theorem maps_le {c : Nat} (h : c ≤ 4096) : maps c ≤ 3 := by unfold maps; omega
set_option maxRecDepth 100000 in
theorem maps_pos {c : Nat} (h : 1 ≤ c) : 1 ≤ maps c := by unfold maps; omega
set_option maxRecDepth 100000 in
theorem maps_lt {c k : Nat} (h : k < maps c) : 1920 * k < c := by unfold maps at h; omega
set_option maxRecDepth 100000 in
theorem cells_pos {c k : Nat} (h : k < maps c) : 1 ≤ cells c k := by have := maps_lt h; unfold cells size; omega
set_option maxRecDepth 100000 in
theorem cells_le (c k : Nat) : cells c k ≤ 240 := by unfold cells size; omega
/-- The bits of a map's cell that stand against it: a map that is not taken, a bit that means no page. -/
def wrong (c k : Nat) (bs : List UInt8) (i : Nat) : Bool := (decide (1920 * k + i < maps c) && !bit bs i) || (decide (c ≤ 1920 * k + i) && bit bs i)
def may (c k : Nat) (bs : List UInt8) : Bool := decide (bs.length = cells c k) && (List.range (8 * bs.length)).all fun i => !wrong c k bs i
/-- The least page that is not taken, within its map. -/
def isLeft (c k : Nat) (bs : List UInt8) (i : Nat) : Bool := !bit bs i && decide (1920 * k + i < c)
def least (c k : Nat) (bs : List UInt8) : Option Nat := (List.range (8 * bs.length)).find? (isLeft c k bs)
/-- The pages that are taken by a map. -/
def tak (k : Nat) (bs : List UInt8) (n : Nat) : List Int := ((List.range n).filter (bit bs)).map fun i => ((1920 * k + i : Nat) : Int)
def taken (k : Nat) (bs : List UInt8) : List Int := tak k bs (8 * bs.length)
set_option maxRecDepth 100000 in
theorem tak_more (k : Nat) (bs : List UInt8) (n : Nat) : tak k bs (n + 1) = if bit bs n then tak k bs n ++ [((1920 * k + n : Nat) : Int)] else tak k bs n := by
  unfold tak
  rw [List.range_succ, List.filter_append, List.map_append]
  cases h : bit bs n <;> simp [h]
set_option maxRecDepth 100000 in
theorem len_tak (k : Nat) (bs : List UInt8) (n : Nat) : (tak k bs n).length ≤ n := by
  unfold tak
  rw [List.length_map]
  exact Nat.le_trans (List.length_filter_le _ _) (by rw [List.length_range]; exact Nat.le_refl _)
/-- The first n bits turned. -/
def firsts (bs : List UInt8) (n : Nat) : List UInt8 := (List.range n).foldl flip bs
set_option maxRecDepth 100000 in
theorem firsts_more (bs : List UInt8) (n : Nat) : firsts bs (n + 1) = flip (firsts bs n) n := by
  unfold firsts
  rw [List.range_succ, List.foldl_append]
  rfl
theorem len_firsts (bs : List UInt8) : ∀ n, (firsts bs n).length = bs.length
  | 0 => rfl
  | n + 1 => by rw [firsts_more, len_flip, len_firsts bs n]
/-- A map's cell at first. -/
def first (c k : Nat) : List UInt8 := firsts (List.replicate (cells c k) 0) (min (maps c - 1920 * k) (8 * cells c k))
set_option maxRecDepth 100000 in
theorem len_first (c k : Nat) : (first c k).length = cells c k := by unfold first; rw [len_firsts, List.length_replicate]
/-- A map's page. -/
def pgP (k : Nat) (x : List UInt8) : M.Pg := ⟨k, 2, [x]⟩
def pg (k : Nat) (x : List UInt8) : List UInt8 := M.pbytes (pgP k x)
theorem pg_ok {k : Nat} {x : List UInt8} (hk : k < 2147483648) (hx : x.length ≤ 240) : (pgP k x).Ok := ⟨hk, by show (2 : UInt8) ≠ 0; decide, by show M.taken [x] ≤ 244; rw [M.taken_one]; omega⟩
theorem pg_read {k : Nat} {x : List UInt8} (hk : k < 2147483648) (hx : x.length ≤ 240) : M.readP (pg k x) = some (pgP k x) := M.read_pbytes (pg_ok hk hx)
theorem pg_len {k : Nat} {x : List UInt8} (hx : x.length ≤ 240) : (pg k x).length = 256 := M.len_pbytes (by show M.taken [x] ≤ 244; rw [M.taken_one]; omega)
theorem pg_kind {k : Nat} {x : List UInt8} (hk : k < 2147483648) (hx : x.length ≤ 240) : M.kindP (pg k x) = 2 := M.kind_put (pg_ok hk hx)
theorem pg_cells {k : Nat} {x : List UInt8} (hk : k < 2147483648) (hx : x.length ≤ 240) : M.cellsP (pg k x) = [x] := M.cells_put (pg_ok hk hx)
/-- What a page's bytes are as the k-th map. -/
def gm (c k : Nat) (bs : List UInt8) : Option (List UInt8) := if M.kindP bs = 2 then (match M.cellsP bs with
  | [x] => if may c k x then some x else none
  | _ => none) else none
set_option maxRecDepth 100000 in
theorem gm_some {c k : Nat} {bs x : List UInt8} (h : gm c k bs = some x) : M.kindP bs = 2 ∧ M.cellsP bs = [x] ∧ may c k x = true := by
  unfold gm at h
  split at h
  · rename_i h1
    split at h
    · rename_i y h2
      split at h
      · rename_i h3
        cases h
        exact ⟨h1, h2, h3⟩
      · cases h
    · cases h
  · cases h
set_option maxRecDepth 100000 in
theorem gm_pg {c k : Nat} {x : List UInt8} (hk : k < 2147483648) (hx : x.length ≤ 240) : gm c k (pg k x) = if may c k x then some x else none := by
  unfold gm
  rw [pg_kind hk hx, pg_cells hk hx]
  rfl
set_option maxRecDepth 100000 in
theorem may_len {c k : Nat} {x : List UInt8} (h : may c k x = true) : x.length = cells c k := by
  unfold may at h
  simp only [Bool.and_eq_true, decide_eq_true_eq] at h
  exact h.1
set_option maxRecDepth 100000 in
theorem may_bit {c k : Nat} {x : List UInt8} (h : may c k x = true) {i : Nat} (hi : i < 8 * x.length) : wrong c k x i = false := by
  unfold may at h
  simp only [Bool.and_eq_true, decide_eq_true_eq, List.all_eq_true, List.mem_range, Bool.not_eq_true'] at h
  exact h.2 i hi
set_option maxRecDepth 100000 in
theorem may_of {c k : Nat} {x : List UInt8} (hl : x.length = cells c k) (h : ∀ i, i < 8 * x.length → wrong c k x i = false) : may c k x = true := by
  unfold may
  simp only [Bool.and_eq_true, decide_eq_true_eq, List.all_eq_true, List.mem_range, Bool.not_eq_true']
  exact ⟨hl, h⟩

/-! ### A space's calls -/
def cnt (s : F.Po) : Nat := s.ct.toNat
/-- A map that is got: the answer. -/
def mapE (s : F.Po) (D : dSt) (k : Nat) : Nat := if F.getE s D k = 0 then (if (gm (cnt s) k (F.getB s D k)).isSome then 0 else 22) else F.getE s D k
def mapB (s : F.Po) (D : dSt) (k : Nat) : List UInt8 := if F.getE s D k = 0 then (gm (cnt s) k (F.getB s D k)).getD [] else []
/-- Format: r maps from k on. -/
def formatG : Nat → Nat → F.Po → Nat × F.Po
  | 0, _, s => (0, s)
  | r + 1, k, s => if F.putE s k (pg k (first (cnt s) k)) = 0 then formatG r (k + 1) (F.putS s k (pg k (first (cnt s) k))) else (F.putE s k (pg k (first (cnt s) k)), F.putS s k (pg k (first (cnt s) k)))
/-- Open. -/
def openG (D : dSt) : Nat → Nat → F.Po → Nat × F.Po
  | 0, _, s => (0, s)
  | r + 1, k, s => if mapE s D k = 0 then openG D r (k + 1) (F.getS s D k) else (mapE s D k, F.getS s D k)
/-- Alloc: the number, the answer, the state. -/
def allocG (D : dSt) : Nat → Nat → F.Po → Int × Nat × F.Po
  | 0, _, s => (0, 30, s)
  | r + 1, k, s => if mapE s D k = 0 then (match least (cnt s) k (mapB s D k) with
    | none => allocG D r (k + 1) (F.getS s D k)
    | some i => if F.putE (F.getS s D k) k (pg k (flip (mapB s D k) i)) = 0 then (((1920 * k + i : Nat) : Int), 0, F.putS (F.getS s D k) k (pg k (flip (mapB s D k) i))) else (0, F.putE (F.getS s D k) k (pg k (flip (mapB s D k) i)), F.putS (F.getS s D k) k (pg k (flip (mapB s D k) i)))) else (0, mapE s D k, F.getS s D k)
/-- Free. -/
def freeG (D : dSt) (s : F.Po) (no : Int) : Nat × F.Po := if no < (maps (cnt s) : Int) ∨ s.ct ≤ no then (2, s) else
  (if mapE s D (no.toNat / 1920) = 0 then (if bit (mapB s D (no.toNat / 1920)) (no.toNat % 1920) then (F.putE (F.getS s D ((no.toNat / 1920 : Nat) : Int)) ((no.toNat / 1920 : Nat) : Int) (pg (no.toNat / 1920) (flip (mapB s D (no.toNat / 1920)) (no.toNat % 1920))), F.putS (F.getS s D ((no.toNat / 1920 : Nat) : Int)) ((no.toNat / 1920 : Nat) : Int) (pg (no.toNat / 1920) (flip (mapB s D (no.toNat / 1920)) (no.toNat % 1920)))) else (40, F.getS s D ((no.toNat / 1920 : Nat) : Int))) else (mapE s D (no.toNat / 1920), F.getS s D ((no.toNat / 1920 : Nat) : Int)))
/-- Taken. -/
def takenG (D : dSt) : Nat → Nat → F.Po → List Int → List Int × Nat × F.Po
  | 0, _, s, l => (l, 0, s)
  | r + 1, k, s, l => if mapE s D k = 0 then takenG D r (k + 1) (F.getS s D k) (l ++ taken k (mapB s D k)) else ([], mapE s D k, F.getS s D k)
set_option maxRecDepth 100000 in
theorem get_ct (s : F.Po) (D : dSt) (k : Int) : cnt (F.getS s D k) = cnt s := by unfold cnt; rw [(F.get_same s D k).2.1]
set_option maxRecDepth 100000 in
theorem put_ct (s : F.Po) (k : Int) (bs : List UInt8) : cnt (F.putS s k bs) = cnt s := by unfold cnt; rw [(F.put_same s k bs).2.1]
set_option maxRecDepth 100000 in
theorem mapB_may {s : F.Po} {D : dSt} {k : Nat} (h : mapE s D k = 0) : F.getE s D k = 0 ∧ gm (cnt s) k (F.getB s D k) = some (mapB s D k) ∧ may (cnt s) k (mapB s D k) = true ∧ M.cellsP (F.getB s D k) = [mapB s D k] ∧ M.kindP (F.getB s D k) = 2 := by
  unfold mapE at h
  split at h
  · rename_i h1
    have h2 : (gm (cnt s) k (F.getB s D k)).isSome = true := by
      cases hq : (gm (cnt s) k (F.getB s D k)).isSome with
      | true => rfl
      | false => rw [hq] at h; cases h
    obtain ⟨x, hx⟩ := Option.isSome_iff_exists.1 h2
    have e : mapB s D k = x := by unfold mapB; rw [if_pos h1, hx]; rfl
    rw [e]
    obtain ⟨a, b, c⟩ := gm_some hx
    exact ⟨h1, hx, c, b, a⟩
  · rename_i h1
    exact absurd h h1
end Go.Proofs.YtokbiekdompaoaaDoor.G

/- The small functions of a space: shares, place, isTaken, turn. -/
namespace Go.Proofs.YtokbiekdompaoaaDoor
open Go.RowKit

set_option maxRecDepth 100000 in
theorem pow8 (i : Nat) : (2 : Int) ^ (i % 8) % 256 = ((2 ^ (i % 8) : Nat) : Int) := by
  have h : i % 8 < 8 := Nat.mod_lt _ (by decide)
  generalize i % 8 = j at *
  match j, h with
  | 0, _ => rfl
  | 1, _ => rfl
  | 2, _ => rfl
  | 3, _ => rfl
  | 4, _ => rfl
  | 5, _ => rfl
  | 6, _ => rfl
  | 7, _ => rfl
set_option maxRecDepth 100000 in
set_option maxHeartbeats 400000 in
theorem place_any (w : World) (i : Nat) (hi : i < 100000000) : Calls Tryd.prog 42 #[.int .i64 (i : Int)] w (fun e w' => e = .returned (.tuple #[.int .i64 ((i % 1920 / 8 : Nat) : Int), .int .u8 ((2 ^ (i % 8) : Nat) : Int)]) ∧ ∃ n, w' = w.drewN n) := by
  go_enter Tryd.func42, Tryd.ntmps42
  go_upto_region 2 with fail
  go_quiet (fail)
  rw [pow8]
  go_wp2_with fail
  go_ret2
  exact ⟨rfl, _, rfl⟩
set_option maxRecDepth 100000 in
set_option maxHeartbeats 400000 in
theorem shares_map (w : World) (n : Nat) (hn : n < 1000000) : Calls Tryd.prog 25 #[.int .i64 (n : Int), .int .i64 1920] w (Tells (.int .i64 ((G.maps n : Nat) : Int)) w) := by
  have e : ((G.maps n : Nat) : Int) = ((n : Int) + 1919) / 1920 := by unfold G.maps; rfl
  rw [e]
  go_enter Tryd.func25, Tryd.ntmps25
  go_wp2_with fail
  go_ret
  exact ⟨congrArg (fun z => Ending.returned (Value.int .i64 z)) (by omega), rfl⟩
set_option maxRecDepth 100000 in
set_option maxHeartbeats 400000 in
theorem shares_byte (w : World) (n : Nat) (hn : n < 1000000) : Calls Tryd.prog 25 #[.int .i64 (n : Int), .int .i64 8] w (Tells (.int .i64 (((n + 7) / 8 : Nat) : Int)) w) := by
  have e : (((n + 7) / 8 : Nat) : Int) = ((n : Int) + 7) / 8 := rfl
  rw [e]
  go_enter Tryd.func25, Tryd.ntmps25
  go_wp2_with fail
  go_ret
  exact ⟨congrArg (fun z => Ending.returned (Value.int .i64 z)) (by omega), rfl⟩
set_option maxRecDepth 100000 in
theorem and_bit : ∀ c : Fin 256, ∀ j : Fin 8, (bits BinOp.and IntKind.u8 ((c.val : Nat) : Int) ((2 ^ j.val : Nat) : Int) != 0) = c.val.testBit j.val := by decide +kernel
set_option maxRecDepth 100000 in
theorem xor_bit : ∀ c : Fin 256, ∀ j : Fin 8, bits BinOp.xor IntKind.u8 ((c.val : Nat) : Int) ((2 ^ j.val : Nat) : Int) = (((UInt8.ofNat c.val ^^^ UInt8.ofNat (2 ^ j.val)).toNat : Nat) : Int) := by decide +kernel
theorem and_bit' (c : UInt8) (i : Nat) : (bits BinOp.and IntKind.u8 ((c.toNat : Nat) : Int) ((2 ^ (i % 8) : Nat) : Int) != 0) = c.toNat.testBit (i % 8) := and_bit ⟨c.toNat, c.toNat_lt⟩ ⟨i % 8, Nat.mod_lt _ (by decide)⟩
set_option maxRecDepth 100000 in
theorem xor_bit' (c : UInt8) (i : Nat) : bits BinOp.xor IntKind.u8 ((c.toNat : Nat) : Int) ((2 ^ (i % 8) : Nat) : Int) = (((c ^^^ UInt8.ofNat (2 ^ (i % 8))).toNat : Nat) : Int) := by
  have := xor_bit ⟨c.toNat, c.toNat_lt⟩ ⟨i % 8, Nat.mod_lt _ (by decide)⟩
  simpa using this
set_option maxRecDepth 100000 in
theorem getD_some {bs : List UInt8} {z : Nat} {c : UInt8} (h : bs[z]? = some c) : bs.getD z 0 = c := by rw [List.getD_eq_getElem?_getD, h]; rfl
set_option maxRecDepth 100000 in
theorem mod_mod8 (i : Nat) : i % 1920 % 8 = i % 8 := by omega
set_option maxRecDepth 100000 in
set_option maxHeartbeats 400000 in
theorem isTaken_any (w : World) (g o cap : Nat) (bs : List UInt8) (len : Nat) (hl : bs.length = len) (i : Nat) (hi : i < 100000000) (hA : At w (some ⟨g, o, none⟩) bs) (hb : i % 1920 / 8 < len) : Calls Tryd.prog 31 #[.slice (some ⟨g, o, none⟩) len cap, .int .i64 (i : Int)] w (fun e w' => e = .returned (.bool (G.bit bs (i % 1920))) ∧ ∃ n, w' = w.drewN n) := by
  have HP := hid (place_any w i hi)
  obtain ⟨z, hz⟩ : ∃ z, z = i % 1920 / 8 := ⟨_, rfl⟩
  rw [← hz] at HP hb
  obtain ⟨c, hc⟩ : ∃ c, bs[z]? = some c := ⟨_, List.getElem?_eq_getElem (by omega)⟩
  obtain ⟨b', o', e', hcell⟩ := hA z c hc
  cases e'
  obtain ⟨y, hy⟩ : ∃ y : Nat, y = 2 ^ (i % 8) := ⟨_, rfl⟩
  rw [← hy] at HP
  obtain ⟨v, hv⟩ : ∃ v : Nat, v = c.toNat := ⟨_, rfl⟩
  rw [← hv] at hcell
  have hd : ∀ n, (w.drewN n).cell? ⟨g, o + z, none⟩ = some (.int .u8 (v : Int)) := fun n => hcell
  have HZ := hid hz
  have HY := hid hy
  have HV := hid hv
  have HCC := hid hc
  clear hz hy hv hc hA
  go_enter Tryd.func31, Tryd.ntmps31
  go_upto_region 2 with (go_at_call 42; refine HP.out.mono ?_; rintro e w1 ⟨rfl, n, hw⟩; subst hw)
  have hd1 := hd n
  clear hd hcell
  go_wp2_with fail
  go_ret
  refine ⟨congrArg (fun b => Ending.returned (Value.bool b)) ?_, _, rfl⟩
  rw [HV.out, HY.out, and_bit']
  unfold G.bit
  rw [mod_mod8, ← HZ.out, getD_some HCC.out]
theorem Touch.drewN' {T : Nat → Prop} (w : World) (n : Nat) : Touch T w (w.drewN n) := ⟨rfl, rfl, rfl, Nat.le_refl _, fun _ _ _ => rfl⟩
set_option maxRecDepth 100000 in
set_option maxHeartbeats 400000 in
/-- A bit is turned in a block of bytes. -/
theorem turn_any (w : World) (g cap : Nat) (cur : Array Value) (bs : List UInt8) (len : Nat) (hl : bs.length = len) (i : Nat) (hi : i < 100000000) (hg : w.heap[g]? = some (.cells cur 5 (0, 0))) (hs : cur.toList.take len = S bs) (hb : i % 1920 / 8 < len) : Calls Tryd.prog 29 #[.slice (some ⟨g, 0, none⟩) len cap, .int .i64 (i : Int)] w (fun e w' => (∃ v, e = .returned v) ∧ ∃ cur', cur'.size = cur.size ∧ cur'.toList.take len = S (G.flip bs (i % 1920)) ∧ w'.heap[g]? = some (.cells cur' 5 (0, 0)) ∧ Touch (fun k => k = g) w w') := by
  have HP := hid (place_any w i hi)
  obtain ⟨z, hz⟩ : ∃ z, z = i % 1920 / 8 := ⟨_, rfl⟩
  rw [← hz] at HP hb
  obtain ⟨c, hc⟩ : ∃ c, bs[z]? = some c := ⟨_, List.getElem?_eq_getElem (by omega)⟩
  have hcur : cur[z]? = some (.int .u8 (c.toNat : Int)) := by
    have h5 : (S bs)[z]? = some (.int .u8 (c.toNat : Int)) := by rw [S_get, hc]; rfl
    rw [← hs, List.getElem?_take] at h5
    rw [if_pos hb] at h5
    rw [← Array.getElem?_toList]
    exact h5
  have hcell : w.cell? ⟨g, z, none⟩ = some (.int .u8 (c.toNat : Int)) := by rw [cellOf hg]; exact hcur
  have hfz : w.frozen? ⟨g, z, none⟩ = false := by simp [World.frozen?, hg]
  obtain ⟨y, hy⟩ : ∃ y : Nat, y = 2 ^ (i % 8) := ⟨_, rfl⟩
  rw [← hy] at HP
  obtain ⟨v, hv⟩ : ∃ v : Nat, v = c.toNat := ⟨_, rfl⟩
  rw [← hv] at hcell
  have hd : ∀ n, (w.drewN n).cell? ⟨g, z, none⟩ = some (.int .u8 (v : Int)) := fun n => hcell
  have hf : ∀ n, (w.drewN n).frozen? ⟨g, z, none⟩ = false := fun n => hfz
  have HZ := hid hz
  have HY := hid hy
  have HV := hid hv
  have HCC := hid hc
  have HG := hid (And.intro hg (And.intro hs hcur))
  clear hz hy hv hc hg hs hcur hcell hfz
  go_enter Tryd.func29, Tryd.ntmps29
  go_upto_region 1 with (go_at_call 42; refine HP.out.mono ?_; rintro e w1 ⟨rfl, n, hw⟩; subst hw)
  have hd1 := hd n
  have hf1 := hf n
  clear hd hf
  go_wp2_with fail
  go_end0
  refine ⟨⟨_, rfl⟩, _, ?_, ?_, heap_setCell_same (w.drewN n) g z _ 5 _ HG.out.1, Touch.setCell (T := fun j => j = g) (Touch.drewN' w n) (p := ⟨g, z, none⟩) (fun _ => rfl) _⟩
  · simp
  · rw [Array.toList_setIfInBounds, List.take_set, HG.out.2.1]
    unfold G.flip
    rw [mod_mod8, ← HZ.out, getD_some HCC.out, S, S, List.map_set, HV.out, HY.out, xor_bit']
    rfl
end Go.Proofs.YtokbiekdompaoaaDoor

/- A space in memory: its pool's number of pages, its maps. -/
namespace Go.Proofs.YtokbiekdompaoaaDoor
open Go.RowKit

abbrev SBox (p : Nat) : Obj := .cells #[Ptr p] 47 (0, 0)
/-- At sp lies a space over the pool p of c pages. -/
structure Spc (w : World) (sp p c : Nat) : Prop where
  box : w.heap[sp]? = some (SBox p)
  pool : ∃ dp s hb y, w.heap[p]? = some (PBox dp s hb y) ∧ s.ct = (c : Int)
set_option maxRecDepth 100000 in
theorem Spc.lt {w : World} {sp p c : Nat} (h : Spc w sp p c) : sp < w.heap.size ∧ p < w.heap.size := by
  obtain ⟨h1, dp, s, hb, y, h2, _⟩ := h
  exact ⟨(Array.getElem?_eq_some_iff.1 h1).1, (Array.getElem?_eq_some_iff.1 h2).1⟩
set_option maxRecDepth 100000 in
theorem Spc.below {w w' : World} {sp p c n : Nat} (h : Spc w sp p c) (hB : Below n w w') (h1 : sp < n) (h2 : p < n) : Spc w' sp p c := by
  obtain ⟨hb, dp, s, hb', y, h3, h4⟩ := h
  exact ⟨by rw [hB.block sp h1]; exact hb, dp, s, hb', y, by rw [hB.block p h2]; exact h3, h4⟩
theorem Spc.adds {w w' : World} {sp p c : Nat} (h : Spc w sp p c) (hA : Adds w w') : Spc w' sp p c := h.below hA.below h.lt.1 h.lt.2
set_option maxRecDepth 100000 in
theorem Spc.touch {w w' : World} {sp p c : Nat} {T : Nat → Prop} (h : Spc w sp p c) (hT : Touch T w w') (h1 : ¬ T sp) (h2 : ¬ T p) : Spc w' sp p c := by
  have hl := h.lt
  obtain ⟨hb, dp, s, hb', y, h3, h4⟩ := h
  exact ⟨by rw [hT.block sp hl.1 h1]; exact hb, dp, s, hb', y, by rw [hT.block p hl.2 h2]; exact h3, h4⟩
set_option maxRecDepth 100000 in
set_option maxHeartbeats 400000 in
theorem count_box {w : World} {dp p : Nat} {s : F.Po} {hb : Nat} {y : Int} (h : w.heap[p]? = some (PBox dp s hb y)) : Calls Tryd.prog 26 #[Ptr p] w (Tells (.int .i64 s.ct) w) := by
  have HM := hid (bmade_yes w p dp (cellOf h 0))
  have c2 : w.cell? ⟨p, 2, none⟩ = some (.int .i64 s.ct) := cellOf h 2
  unfold Ptr at *
  clear h
  go_enter Tryd.func26, Tryd.ntmps26
  go_wp2_with (go_at_call 37; refine HM.out.mono ?_; rintro e _ ⟨rfl, hw⟩; rw [hw]; clear hw)
  go_ret
  exact ⟨rfl, rfl⟩
set_option maxRecDepth 100000 in
set_option maxHeartbeats 400000 in
theorem spool_any {w : World} {sp p : Nat} (h : w.heap[sp]? = some (SBox p)) : Calls Tryd.prog 17 #[Ptr sp] w (Tells (Ptr p) w) := by
  have c0 : w.cell? ⟨sp, 0, none⟩ = some (Ptr p) := by rw [cellOf h]; rfl
  go_enter Tryd.func17, Tryd.ntmps17
  go_wp2_with fail
  go_ret
  exact ⟨rfl, rfl⟩
set_option maxRecDepth 100000 in
theorem scount_any {w : World} {sp p c : Nat} (h : Spc w sp p c) : Calls Tryd.prog 26 #[Ptr p] w (Tells (.int .i64 (c : Int)) w) := by
  obtain ⟨_, dp, s, hb, y, h2, h3⟩ := h
  rw [← h3]
  exact count_box h2
set_option maxRecDepth 100000 in
set_option maxHeartbeats 400000 in
theorem smaps_any {w : World} {sp p c : Nat} (h : Spc w sp p c) (hc : c ≤ 4096) : Calls Tryd.prog 10 #[Ptr sp] w (Tells (.int .i64 ((G.maps c : Nat) : Int)) w) := by
  have H1 := hid (spool_any h.box)
  have H2 := hid (scount_any h)
  have H3 := hid (shares_map w c (by omega))
  clear h
  go_enter Tryd.func10, Tryd.ntmps10
  go_wp2_with (first
    | (go_at_call 17; refine H1.out.mono ?_; rintro e w1 ⟨rfl, rfl⟩)
    | (go_at_call 26; refine H2.out.mono ?_; rintro e w1 ⟨rfl, rfl⟩)
    | (go_at_call 25; refine H3.out.mono ?_; rintro e w1 ⟨rfl, rfl⟩))
  go_ret
  exact ⟨rfl, rfl⟩
set_option maxRecDepth 100000 in
set_option maxHeartbeats 400000 in
theorem smade_any {w : World} {sp p c : Nat} (h : Spc w sp p c) (hc : 1 ≤ c) : Calls Tryd.prog 22 #[Ptr sp] w (Tells (.bool true) w) := by
  have H1 := hid (spool_any h.box)
  have H2 := hid (scount_any h)
  clear h
  go_enter Tryd.func22, Tryd.ntmps22
  go_wp2_with (first
    | (go_at_call 17; refine H1.out.mono ?_; rintro e w1 ⟨rfl, rfl⟩)
    | (go_at_call 26; refine H2.out.mono ?_; rintro e w1 ⟨rfl, rfl⟩))
  go_ret
  exact ⟨by simp; omega, rfl⟩
set_option maxRecDepth 100000 in
set_option maxHeartbeats 400000 in
theorem scell_any {w : World} {sp p c : Nat} (h : Spc w sp p c) (hc : c ≤ 4096) {k : Nat} (hk : k < G.maps c) : Calls Tryd.prog 36 #[Ptr sp, .int .i64 (k : Int)] w (Tells (.int .i64 ((G.cells c k : Nat) : Int)) w) := by
  have hl := G.maps_lt hk
  have h3 := G.maps_le hc
  have c0 : w.cell? ⟨sp, 0, none⟩ = some (Ptr p) := by rw [cellOf h.box]; rfl
  have H2 := hid (scount_any h)
  have H3 := hid (shares_byte w (G.size c k) (by unfold G.size; omega))
  clear h
  have q1 : 0 < (c : Int) - 1920 * (k : Int) := by omega
  have q2 : (c : Int) < 5000 := by omega
  have q3 : (k : Int) < 3 := by omega
  have HZ : min ((c : Int) - 1920 * (k : Int)) 1920 = ((G.size c k : Nat) : Int) := by unfold G.size; omega
  clear hl h3 hk hc
  go_enter Tryd.func36, Tryd.ntmps36
  go_wp2_with (first
    | (go_at_call 26; refine H2.out.mono ?_; rintro e w1 ⟨rfl, rfl⟩)
    | (go_at_call 25; refine H3.out.mono ?_; rintro e w1 ⟨rfl, rfl⟩))
  go_ret
  exact ⟨rfl, rfl⟩
end Go.Proofs.YtokbiekdompaoaaDoor
