/- Texts put together: GS1, GFirst. -/
import Derived.Test.YtjlennpoaefllaaGreatDoorQ34
import Derived.Test.YtjlennpoaefllaaGreatDoorQ26
import Derived.Test.YtjlennpoaefllaaGreatDoorQ24
import Derived.Deep.CutBlock
import Derived.Deep.DeepCutAuto
/- A space of one map, by definition: its pool holds one page. -/
namespace Go.Proofs.YtjlennpoaefllaaGreatDoor
namespace G

/-- A pool that holds its first page alone, a map. -/
def S1 (c mo : Nat) (x : List UInt8) (fr dt : Bool) (ws : List UInt8) : F.Po := ⟨0, c, mo, [⟨0, pg 0 x, ws, fr, dt⟩]⟩
set_option maxRecDepth 100000 in
theorem maps1 {c : Nat} (h1 : 1 ≤ c) (h2 : c ≤ 1920) : maps c = 1 := by unfold maps; omega
set_option maxRecDepth 100000 in
theorem in1 {c : Nat} (h : 1 ≤ c) (mo : Nat) (L : List F.Fr) : F.inPool ⟨0, c, mo, L⟩ ((0 : Nat) : Int) = true := by
  unfold F.inPool
  simp
  omega
set_option maxRecDepth 100000 in
theorem nw_pg {k : Nat} {y : List UInt8} (hk : k < 2147483648) (hy : y.length ≤ 240) : F.nw (pg k y) = pg k y := by
  unfold F.nw
  rw [pg_read hk hy]
  rfl
set_option maxRecDepth 100000 in
theorem put1 {c : Nat} (hc : 1 ≤ c) (mo : Nat) (x : List UInt8) (fr dt : Bool) (ws : List UInt8) {y : List UInt8} (hy : y.length ≤ 240) : F.putE (S1 c mo x fr dt ws) ((0 : Nat) : Int) (pg 0 y) = 0 ∧ F.putS (S1 c mo x fr dt ws) ((0 : Nat) : Int) (pg 0 y) = S1 c mo y true dt (if fr then ws else if dt then pg 0 x else []) := by
  have e1 : F.putE (S1 c mo x fr dt ws) ((0 : Nat) : Int) (pg 0 y) = 0 := by
    unfold F.putE
    rw [show F.inPool (S1 c mo x fr dt ws) ((0 : Nat) : Int) = true from in1 hc mo _, pg_read (by decide) hy]
    rfl
  refine ⟨e1, ?_⟩
  unfold F.putS
  rw [if_pos e1, nw_pg (by decide) hy]
  rfl
set_option maxRecDepth 100000 in
theorem put0 {c mo : Nat} (hc : 1 ≤ c) (hm : 1 ≤ mo) {y : List UInt8} (hy : y.length ≤ 240) : F.putE ⟨0, c, mo, []⟩ ((0 : Nat) : Int) (pg 0 y) = 0 ∧ F.putS ⟨0, c, mo, []⟩ ((0 : Nat) : Int) (pg 0 y) = S1 c mo y true false [] := by
  have hn : F.need ⟨0, c, mo, []⟩ ((0 : Nat) : Int) = false := by
    unfold F.need
    simp
    intro _
    omega
  have e1 : F.putE ⟨0, c, mo, []⟩ ((0 : Nat) : Int) (pg 0 y) = 0 := by
    unfold F.putE F.room
    rw [in1 hc mo _, pg_read (by decide) hy, hn]
    rfl
  refine ⟨e1, ?_⟩
  unfold F.putS
  rw [if_pos e1, nw_pg (by decide) hy]
  unfold F.held F.out
  rw [hn]
  rfl
set_option maxRecDepth 100000 in
theorem format1 {c mo : Nat} (hc : 1 ≤ c) (hc2 : c ≤ 1920) (hm : 1 ≤ mo) : formatG (maps (cnt ⟨0, c, mo, []⟩)) 0 ⟨0, c, mo, []⟩ = (0, S1 c mo (first c 0) true false []) := by
  have e0 : cnt ⟨0, c, mo, []⟩ = c := by show (c : Int).toNat = c; omega
  rw [e0, maps1 hc hc2]
  have hl : (first c 0).length ≤ 240 := by rw [len_first]; exact cells_le c 0
  obtain ⟨p1, p2⟩ := put0 (c := c) (mo := mo) hc hm hl
  unfold formatG
  rw [e0, if_pos p1, p2]
  rfl
/-- A cell's bits by a function. -/
def CellOf (c : Nat) (x : List UInt8) (f : Nat → Bool) : Prop := x.length = cells c 0 ∧ ∀ i, bit x i = (decide (i < c) && f i)
set_option maxRecDepth 100000 in
theorem CellOf.may {c : Nat} (hc : 1 ≤ c) (hc2 : c ≤ 1920) {x : List UInt8} {f : Nat → Bool} (h : CellOf c x f) (h0 : f 0 = true) : G.may c 0 x = true := by
  refine may_of h.1 (fun i _ => ?_)
  unfold wrong
  rw [maps1 hc hc2, h.2 i, Nat.mul_zero, Nat.zero_add]
  by_cases q : i = 0
  · subst q; rw [h0]; simp; omega
  · by_cases q2 : i < c
    · simp [q2]; omega
    · simp [q2]; omega
set_option maxRecDepth 100000 in
theorem CellOf.flip {c : Nat} (hc2 : c ≤ 1920) {x : List UInt8} {f : Nat → Bool} (h : CellOf c x f) {i : Nat} (hi : i < c) : CellOf c (flip x i) (fun j => if j = i then !f j else f j) := by
  refine ⟨by rw [len_flip]; exact h.1, fun j => ?_⟩
  have hl : i / 8 < x.length := by rw [h.1]; unfold cells size; omega
  rw [bit_flip x j hl, h.2 j]
  by_cases q : j = i
  · subst q; simp [hi]
  · simp [q]
set_option maxRecDepth 100000 in
theorem zeros_bit (n i : Nat) : bit (List.replicate n 0) i = false := by
  unfold bit
  rw [List.getD_eq_getElem?_getD, List.getElem?_replicate]
  split <;> simp
set_option maxRecDepth 100000 in
theorem CellOf.first {c : Nat} (hc : 1 ≤ c) (hc2 : c ≤ 1920) : CellOf c (first c 0) (fun i => decide (i = 0)) := by
  have e : G.first c 0 = G.flip (List.replicate (cells c 0) 0) 0 := by
    unfold G.first
    have h1 : 1 ≤ cells c 0 := cells_pos (by rw [maps1 hc hc2]; decide)
    rw [maps1 hc hc2, show min (1 - 1920 * 0) (8 * cells c 0) = 0 + 1 by omega, firsts_more]
    rfl
  refine ⟨len_first c 0, fun i => ?_⟩
  have h1 : 1 ≤ cells c 0 := cells_pos (by rw [maps1 hc hc2]; decide)
  rw [e, bit_flip _ i (by rw [List.length_replicate]; omega), zeros_bit]
  by_cases q : i = 0
  · subst q; simp; omega
  · simp [q]
set_option maxRecDepth 100000 in
theorem CellOf.isLeft {c : Nat} {x : List UInt8} {f : Nat → Bool} (h : CellOf c x f) (i : Nat) : G.isLeft c 0 x i = (decide (i < c) && !f i) := by
  unfold G.isLeft
  rw [h.2 i, Nat.mul_zero, Nat.zero_add]
  by_cases q : i < c <;> simp [q]
set_option maxRecDepth 100000 in
theorem CellOf.len {c : Nat} (hc2 : c ≤ 1920) {x : List UInt8} {f : Nat → Bool} (h : CellOf c x f) {i : Nat} (hi : i < c) : i < 8 * x.length := by
  rw [h.1]; unfold cells size; omega
theorem CellOf.some {c : Nat} (hc2 : c ≤ 1920) {x : List UInt8} {f : Nat → Bool} (h : CellOf c x f) {i : Nat} (hi : i < c) (hf : f i = false) (hlt : ∀ j, j < i → f j = true) : G.least c 0 x = some i :=
  least_at (h.len hc2 hi) (by rw [h.isLeft, hf]; simp [hi]) (fun j hj => by rw [h.isLeft, hlt j hj]; simp)
theorem CellOf.none {c : Nat} {x : List UInt8} {f : Nat → Bool} (h : CellOf c x f) (hf : ∀ j, j < c → f j = true) : G.least c 0 x = none :=
  least_none (fun j _ => by
    rw [h.isLeft]
    by_cases q : j < c
    · rw [hf j q]; simp
    · simp [q])
/-- The numbers that are taken, by the function. -/
def nums (c : Nat) (f : Nat → Bool) : List Int := ((List.range c).filter f).map fun i : Nat => (i : Int)
set_option maxRecDepth 100000 in
theorem CellOf.taken {c : Nat} (hc2 : c ≤ 1920) {x : List UInt8} {f : Nat → Bool} (h : CellOf c x f) : G.taken 0 x = nums c f := by
  have key : ∀ n, c ≤ n → tak 0 x n = nums c f := by
    intro n hn
    unfold tak nums
    have e1 : ∀ m, (List.range (c + m)).filter (bit x) = (List.range c).filter f := by
      intro m
      induction m with
      | zero =>
        refine List.filter_congr (fun i hi => ?_)
        have hi' : i < c := List.mem_range.1 hi
        rw [h.2 i]
        simp [hi']
      | succ m ih =>
        rw [← Nat.add_assoc, List.range_succ, List.filter_append, ih]
        have : bit x (c + m) = false := by rw [h.2]; simp; intro q; omega
        simp [this]
    have := e1 (n - c)
    rw [show c + (n - c) = n by omega] at this
    rw [this]
    simp
  refine key _ ?_
  have := h.1
  unfold cells size at this
  omega
end G
end Go.Proofs.YtjlennpoaefllaaGreatDoor

/- firstCell: a map's cell while just the maps are taken. -/
namespace Go.Proofs.YtjlennpoaefllaaGreatDoor
open Go.RowKit Go.Shelf
attribute [local go_sem] Oper.semAt_some

/-- Bytes in a block of their own. -/
def FC (g len : Nat) (bs : List UInt8) (W : World) : Prop := ∃ cur, W.heap[g]? = some (.cells cur 5 (0, 0)) ∧ bs.length = len ∧ cur.toList.take len = S bs
def KpF (g len Bc Bk : Nat) (W W' : World) : Prop := Kp3 [Bk, Bc] W W' ∧ ((∃ bs, FC g len bs W) → ∃ bs, FC g len bs W')
theorem kpF_t {g len Bc Bk : Nat} {A B C : World} (h : KpF g len Bc Bk A B) (k : KpF g len Bc Bk B C) : KpF g len Bc Bk A C := ⟨kp3_t h.1 k.1, fun q => k.2 (h.2 q)⟩
set_option maxRecDepth 100000 in
theorem FC.at {g len : Nat} {bs : List UInt8} {W : World} (h : FC g len bs W) : At W (some ⟨g, 0, none⟩) bs := by
  obtain ⟨cur, h1, h2, h3⟩ := h
  intro j c hj
  refine ⟨g, 0, rfl, ?_⟩
  have h5 : (S bs)[j]? = some (.int .u8 (c.toNat : Int)) := by rw [S_get, hj]; rfl
  rw [← h3, List.getElem?_take] at h5
  have hj2 : j < len := by rw [← h2]; exact (List.getElem?_eq_some_iff.1 hj).1
  rw [if_pos hj2] at h5
  rw [cellOf h1, Nat.zero_add, ← Array.getElem?_toList]
  exact h5
set_option maxRecDepth 100000 in
theorem FC.block {g len : Nat} {bs : List UInt8} {W W' : World} (h : FC g len bs W) (e : W'.heap[g]? = W.heap[g]?) : FC g len bs W' := by
  obtain ⟨cur, h1, h2⟩ := h
  exact ⟨cur, by rw [e]; exact h1, h2⟩
set_option maxRecDepth 100000 in
theorem FC.lt {g len : Nat} {bs : List UInt8} {W : World} (h : FC g len bs W) : g < W.heap.size := by
  obtain ⟨cur, h1, h2⟩ := h
  exact (Array.getElem?_eq_some_iff.1 h1).1
theorem kpF_b {g len Bc Bk : Nat} {w : World} (h1 : g < w.heap.size) (h2 : Bc < w.heap.size) (h3 : Bk < w.heap.size) (W : World) (l : Nat) (o o' : Obj) (hl : w.heap.size ≤ l) (a : W.heap[l]? = some o) (b : o.isCells = false) (c : o.isWalk = false) : KpF g len Bc Bk W (W.putObj l o') :=
  ⟨kp3_b (fun j hj => by simp at hj; omega) W l o o' hl a b c, fun ⟨bs, q⟩ => ⟨bs, q.block (World.putObj_heap_other (by omega))⟩⟩
set_option maxRecDepth 100000 in
theorem FC_own {β : Type} (g len : Nat) (f : β → List UInt8) : Go.Own (fun s W => FC g len (f s) W) := by
  rintro s X Y row ⟨cur, h1, h2⟩ hg hrow
  refine ⟨cur, ?_, h2⟩
  rw [hg.block g (Array.getElem?_eq_some_iff.1 h1).1 (fun e => ?_)]
  · exact h1
  · obtain ⟨o, ho, hc⟩ := hrow g e.symm
    rw [h1] at ho
    cases ho
    cases hc
/-- A page's number that has its bit in the cell. -/
abbrev NoL (len : Nat) : Type := { y : Nat // y % 1920 / 8 < len ∧ y < 100000 }
abbrev encF (len : Nat) (x : NoL len × Bool) : Array Value := #[.int .i64 (x.1.1 : Int), .bool x.2]
def fF (k len : Nat) (h1 : 1 ≤ len) (hlen : len ≤ 240) (hk : k ≤ 3) (j : Nat) (b : Bool) : NoL len × Bool := (if h : j < 8 * len then ⟨1920 * k + j, by omega, by omega⟩ else ⟨0, by omega, by omega⟩, b)
set_option maxRecDepth 100000 in
theorem fF_no {k len : Nat} (h1 : 1 ≤ len) (hlen : len ≤ 240) (hk : k ≤ 3) {j : Nat} (b : Bool) (hj : j < 8 * len) : (fF k len h1 hlen hk j b).1.1 = 1920 * k + j := by unfold fF; rw [dif_pos hj]
/-- What the cell is, when some have come. -/
def turned {len : Nat} (z : List UInt8) (pre : List (NoL len × Bool)) : List UInt8 := pre.foldl (fun b x => G.flip b (x.1.1 % 1920)) z
set_option maxRecDepth 100000 in
theorem turned_more {len : Nat} (z : List UInt8) (pre : List (NoL len × Bool)) (x : NoL len × Bool) : turned z (pre ++ [x]) = G.flip (turned z pre) (x.1.1 % 1920) := by unfold turned; rw [List.foldl_append]; rfl
set_option maxRecDepth 100000 in
theorem turned_ups {k len : Nat} (h1 : 1 ≤ len) (hlen : len ≤ 240) (hk : k ≤ 3) (z : List UInt8) {V : Nat → Bool → Prop} : ∀ (j : Nat) (pre : List (NoL len × Bool)), j ≤ 8 * len → Ups (fF k len h1 hlen hk) V j pre → turned z pre = G.firsts z j
  | 0, pre, _, h => by
    obtain rfl : pre = [] := List.eq_nil_of_length_eq_zero h.1
    rfl
  | j + 1, pre, hj, h => by
    obtain ⟨b, _, hx⟩ := h.2 j (by omega)
    have e : pre = pre.take j ++ [fF k len h1 hlen hk j b] := by
      have := List.take_append_getElem (l := pre) (i := j) (by rw [h.1]; omega)
      rw [List.getElem?_eq_getElem (by rw [h.1]; omega)] at hx
      rw [Option.some.inj hx] at this
      rw [this, ← h.1, List.take_length]
    have hu : Ups (fF k len h1 hlen hk) V j (pre.take j) := ⟨by rw [List.length_take, h.1]; omega, fun i hi => by
      obtain ⟨b', h2, h3⟩ := h.2 i (by omega)
      exact ⟨b', h2, by rw [List.getElem?_take, if_pos hi]; exact h3⟩⟩
    rw [e, turned_more, turned_ups h1 hlen hk z j _ (by omega) hu, G.firsts_more, fF_no h1 hlen hk b (by omega), show (1920 * k + j) % 1920 = j by omega]
def FiI (c len N2 N5 g sp cap : Nat) (w : World) (pre : List (NoL len × Bool)) (W : World) : Prop := (∀ x ∈ pre, x.1.1 < G.maps c) ∧ Boxed W N2 37 (Ptr sp) ∧ Boxed W N5 43 (.slice (some ⟨g, 0, none⟩) len cap) ∧ FC g len (turned (List.replicate len 0) pre) W ∧ Below w.heap.size w W ∧ w.heap.size + 5 ≤ W.heap.size
def FiX (c len N5 g cap id : Nat) (w : World) (cd : Code) (pre : List (NoL len × Bool)) (W : World) : Prop := cd = .exit id ∧ ∃ p0 x, pre = p0 ++ [x] ∧ G.maps c ≤ x.1.1 ∧ (∀ y ∈ p0, y.1.1 < G.maps c) ∧ Boxed W N5 43 (.slice (some ⟨g, 0, none⟩) len cap) ∧ FC g len (turned (List.replicate len 0) p0) W ∧ Below w.heap.size w W
set_option maxRecDepth 100000 in
theorem makeN (n : Nat) (h : n ≤ 1000) (w : World) : (Instr.makeSlice 43 (.int .i64 (n : Int)) (.int .i64 (n : Int))).run Tryz.prog w = .ok (.slice (some ⟨w.heap.size, 0, none⟩) n n) (w.alloc (.cells (S (List.replicate n 0)).toArray 5)) := by
  obtain ⟨i0, hi, hz0, hz1, hz2⟩ := info5all
  have q := run_make (P := Tryz.prog) w 43 5 i0 (.int .u8 0) Tryz.underlying43 hi hz0 .i64 .i64 n n (by omega) (by omega) (by rw [hz2]; omega) (by omega)
  rw [q, hz1]
  simp only [madeCells, S, Int.toNat_natCast, Nat.mul_one]
  congr 3
  apply Array.ext
  · simp
  · intro i h1 h2; simp [Value.cells, Nat.mod_one]; rfl
/-- What firstCell tells. -/
def PFirst (w : World) (bs : List UInt8) (e : Ending) (w' : World) : Prop := ∃ g cap, e = .returned (.slice (some ⟨g, 0, none⟩) bs.length cap) ∧ Hid (FC g bs.length bs w' ∧ w.heap.size ≤ g ∧ bs.length ≤ cap ∧ Adds w w')
set_option maxRecDepth 100000 in
/-- The bits of a cell that a round may turn. -/
theorem bits_turns {w wN : World} {g len cap k : Nat} {bs : List UInt8} (hN : wN = (w.alloc (.cells #[.int .i64 (k : Int)] 3)).alloc (.cells #[.slice (some ⟨g, 0, none⟩) len cap] 43)) (hA : FC g len bs w) (h1 : 1 ≤ len) (hlen : len ≤ 240) (hk : k ≤ 3) (n : Nat) (hn : 1 ≤ n) :
    SeqStopsK Fence.wide n Tryz.prog 118 #[Ptr (w.heap.size + 1), Ptr w.heap.size] (encF len) (KpF g len (w.heap.size + 1) w.heap.size) (Ups (fF k len h1 hlen hk) (fun _ _ => True) (8 * len)) (fun pre => ∃ j, j < 8 * len ∧ Ups (fF k len h1 hlen hk) (fun _ _ => True) (j + 1) pre) (8 * len) wN := by
  have hg : g < w.heap.size := hA.lt
  have hz : wN.heap.size = w.heap.size + 2 := by rw [hN]; simp
  have hlt : ∀ W, Kp3 [w.heap.size, w.heap.size + 1] wN W → ∀ j ∈ [w.heap.size, w.heap.size + 1], j < W.heap.size := fun W hW j hj => by
    have h2 := hW j hj
    rw [Array.getElem?_eq_getElem (by simp at hj; omega : j < wN.heap.size)] at h2
    exact (Array.getElem?_eq_some_iff.1 h2).1
  refine bits1_stops (len := len) (cap := cap) (k := k) (g := g) (o := 0) n hn (encF len) (fF k len h1 hlen hk) _ (fun j b hj => by show #[Value.int .i64 (((fF k len h1 hlen hk j b).1.1 : Nat) : Int), Value.bool b] = _; rw [fF_no h1 hlen hk b hj]) (fun W => Kp3 [w.heap.size, w.heap.size + 1] wN W ∧ ∃ bs, FC g len bs W) _ wN (fun W hW => ?_) (fun W hW => ⟨fun j hj => hW.block j (by simp at hj; omega), bs, (hA.block (W' := wN) (by rw [hN, Below.heap_alloc _ _ _ (by simp; omega), Below.heap_alloc _ _ _ hg])).block (hW.block g (by omega))⟩) (fun W W' h hA => ⟨kp3_t h.1 (kp3_adds (hlt W h.1) hA), h.2.imp (fun bs q => q.block (hA.block g q.lt id))⟩) (fun W W' h hK => ⟨kp3_t h.1 hK.1, hK.2 h.2⟩) hlen (by omega)
  have e1 := hW.1 w.heap.size (by simp)
  have e2 := hW.1 (w.heap.size + 1) (by simp)
  obtain ⟨bs', hb'⟩ := hW.2
  refine ⟨?_, ?_, bs', by obtain ⟨_, _, q, _⟩ := hb'; exact q, hb'.at, fun j _ => trivial⟩
  · rw [World.cell?_of_block (w := wN) e2, hN, cellOf (heap_alloc2_new w _ _)]; rfl
  · rw [World.cell?_of_block (w := wN) e1, hN, cellOf (heap_alloc2_old w _ _)]; rfl
set_option maxRecDepth 100000 in
theorem FiX_own (B c len N5 g cap id : Nat) (w : World) (cd : Code) (hB : w.heap.size ≤ B) : OwnFrom B (FiX c len N5 g cap id w cd) := by
  rintro pre A A' row ⟨h1, p0, x, h2, h3, h4, b5, hf, hb⟩ hg hr
  exact ⟨h1, p0, x, h2, h3, h4, (Own.from (boxed_own N5 43 (fun _ : Unit => .slice (some ⟨g, 0, none⟩) len cap)) B) () A A' row b5 hg hr, (Own.from (FC_own g len (fun _ : Unit => turned (List.replicate len 0) p0)) B) () A A' row hf hg hr, (ownFrom_below (β := Unit) (Nat.le_refl _) hB) () A A' row hb hg hr⟩
set_option maxRecDepth 100000 in
set_option maxHeartbeats 2000000 in
theorem sfirst_any {w : World} {sp p c : Nat} (h : Spc w sp p c) (hc : c ≤ 4096) {k : Nat} (hk : k < G.maps c) : Calls Tryz.prog 38 #[Ptr sp, .int .i64 (k : Int)] w (PFirst w (G.first c k)) := by
  have h3 := G.maps_le hc
  have hcp := G.cells_pos hk
  have hc240 := G.cells_le c k
  obtain ⟨len, hlen⟩ : ∃ len, len = G.cells c k := ⟨_, rfl⟩
  have HS := hid h
  have HC := hid (fun w' (hA' : Adds w w') => scell_any (h.adds hA') hc hk)
  rw [← hlen] at HC hcp hc240
  have HK := hid (And.intro hk (And.intro hc (And.intro h3 (And.intro hcp (And.intro hc240 hlen)))))
  clear h hk hc hlen
  have hl2 : (len : Int) ≤ 240 := by omega
  have hmk := fun w => makeN len (by omega) w
  refine calls_marks Tryz.func38 rfl ?_
  simp only [Tryz.ntmps38, List.size_toArray, List.length_cons, List.length_nil, Nat.reduceAdd, Nat.reduceSub, Array.replicate_succ, Array.replicate_zero, List.push_toArray, List.append_toArray, List.nil_append, List.cons_append]
  go_upto_region 2 with (go_at_call 79; refine (HC.out _ ((Touch.refl _ w).alloc _)).mono ?_; rintro e w1 ⟨rfl, hw⟩; rw [hw]; clear hw)
  obtain ⟨wc, hwc⟩ : ∃ wc, wc = ((w.alloc (.cells #[Ptr sp] 37)).alloc (.cells (S (List.replicate len 0)).toArray 5)).alloc (.cells #[.slice (some ⟨w.heap.size + 1, 0, none⟩) len len] 43) := ⟨_, rfl⟩
  have hA7 : Adds w wc := by rw [hwc]; exact (((Touch.refl _ w).alloc _).alloc _).alloc _
  have hzc : wc.heap.size = w.heap.size + 3 := by rw [hwc]; simp
  obtain ⟨wN, hwN⟩ : ∃ wN, wN = (wc.alloc (.cells #[.int .i64 (k : Int)] 3)).alloc (.cells #[.slice (some ⟨w.heap.size + 1, 0, none⟩) len len] 43) := ⟨_, rfl⟩
  have hz : wN.heap.size = w.heap.size + 5 := by rw [hwN]; simp; omega
  have b2 : Boxed wc w.heap.size 37 (Ptr sp) := by rw [hwc]; exact ((Boxed.new w 37 (Ptr sp)).alloc _).alloc _
  have b5 : Boxed wc (w.heap.size + 1 + 1) 43 (.slice (some ⟨w.heap.size + 1, 0, none⟩) len len) := by
    have e2 := Boxed.new ((w.alloc (.cells #[Ptr sp] 37)).alloc (.cells (S (List.replicate len 0)).toArray 5)) 43 (.slice (some ⟨w.heap.size + 1, 0, none⟩) len len)
    rw [World.size_alloc, World.size_alloc] at e2
    rw [hwc]
    exact e2
  have fc : FC (w.heap.size + 1) len (List.replicate len 0) wc := by
    refine ⟨(S (List.replicate len 0)).toArray, ?_, by simp, by simp [S]⟩
    rw [hwc, Below.heap_alloc _ _ _ (by simp)]
    exact heap_alloc2_new w _ _
  have H8 := hid (show Boxed wN w.heap.size 37 (Ptr sp) ∧ Boxed wN (w.heap.size + 1 + 1) 43 (.slice (some ⟨w.heap.size + 1, 0, none⟩) len len) ∧ FC (w.heap.size + 1) len (List.replicate len 0) wN ∧ Below w.heap.size w wN by
    rw [hwN]
    exact ⟨(b2.alloc _).alloc _, (b5.alloc _).alloc _, fc.block (by rw [Below.heap_alloc _ _ _ (by simp; omega), Below.heap_alloc _ _ _ (by omega)]), Adds.below ((hA7.alloc _).alloc _)⟩)
  have HB := hid (show Calls Tryz.prog 71 #[.int .i64 (k : Int), .slice (some ⟨w.heap.size + 1, 0, none⟩) len len] wc (fun e w' => e = .returned (.func (.func 118) #[] #[Ptr (wc.heap.size + 1), Ptr wc.heap.size]) ∧ w' = wN) by rw [hwN]; exact bits_any wc k _ ⟨_, _, _, rfl⟩)
  have HR := hid (bits_turns hwN fc hcp hc240 (by have := HK.out.1; omega) 8 (by omega))
  rw [hzc] at HR HB
  have c5 := b5.cell
  rw [← hwc]
  have h65 : w.heap.size ≤ wN.heap.size := by omega
  have hkk : (k : Int) < 3 := by have := HK.out.1; omega
  clear hwN hwc b2 b5 fc
  go_wp2_with (go_at_call 71; refine HB.out.mono ?_; rintro e w1 ⟨rfl, hw⟩; rw [hw]; clear hw)
  refine (wpIn_wide (n := 9)).1 (wpIn_rangeFunc_ownF (F := Fence.wide) (n := 9) rfl (by omega) (gf := 118) (lb := #[Ptr (w.heap.size + 3 + 1), Ptr (w.heap.size + 3)]) rfl trivial (enters_of Tryz.func118 (by kernel_rfl) rfl)
    HR.out (fun h k => kpF_t h k) (kpF_b (by omega) (by omega) (by omega)) (Below.refl _ _) (fun _ => rfl)
    (FiI c len w.heap.size (w.heap.size + 1 + 1) (w.heap.size + 1) sp len w) (FiX c len (w.heap.size + 1 + 1) (w.heap.size + 1) len 0 w)
    (OwnFrom.and (ownFrom_pure _ _) (OwnFrom.and (Own.from (boxed_own w.heap.size 37 (fun _ => _)) _) (OwnFrom.and (Own.from (boxed_own (w.heap.size + 1 + 1) 43 (fun _ => _)) _) (OwnFrom.and (Own.from (FC_own (w.heap.size + 1) len (fun pre => turned (List.replicate len 0) pre)) _) (OwnFrom.and (ownFrom_below (Nat.le_refl _) h65) (fun _ _ _ _ hs hg _ => Nat.le_trans hs hg.size))))))
    (fun cd => FiX_own _ _ _ _ _ _ _ _ cd h65)
    ⟨fun x hx => absurd hx List.not_mem_nil, H8.out.1, H8.out.2.1, H8.out.2.2.1, H8.out.2.2.2, by omega⟩
    (fun x => { tmps := #[Ptr sp, Value.int IntKind.i64 (k : Int), Value.pointer (some ⟨w.heap.size, 0, none⟩), undef, Value.slice none 0 0, Value.pointer (some ⟨w.heap.size + 1 + 1, 0, none⟩), .int .i64 (x.1.1 : Int), Ptr sp, Value.int IntKind.i64 (k : Int), Value.int IntKind.i64 (len : Int), Value.slice (some ⟨w.heap.size + 1, 0, none⟩) len len, Value.int IntKind.i64 (k : Int), Value.slice (some ⟨w.heap.size + 1, 0, none⟩) len len, Value.func (Fn.func 118) #[] #[Ptr (w.heap.size + 3 + 1), Ptr (w.heap.size + 3)], .int .i64 (x.1.1 : Int), .bool x.2, undef, undef, undef, undef, undef, undef, undef, undef], defers := [] }) ?assign ?body ?done ?stop)
  case assign =>
    intro l x W K hK
    gi_wp2
    exact hK
  case body =>
    rintro l pre x W ⟨hw, b2, b5, hf, hB, hsz⟩ _
    have hy1 := x.1.2.1
    have hy2 := x.1.2.2
    have HW := hid (And.intro hw (And.intro b2 (And.intro b5 (And.intro hf hB))))
    have HSp := hid (HS.out.below hB HS.out.lt.1 HS.out.lt.2)
    have c2 := b2.cell
    have c5' := b5.cell
    have HM := hid (smaps_any HSp.out HK.out.2.1)
    have HT := hid (show Calls Tryz.prog 73 #[.slice (some ⟨w.heap.size + 1, 0, none⟩) len len, .int .i64 (x.1.1 : Int)] W (fun e w' => (∃ v, e = .returned v) ∧ FC (w.heap.size + 1) len (G.flip (turned (List.replicate len 0) pre) (x.1.1 % 1920)) w' ∧ Touch (fun k => k = w.heap.size + 1) W w') by
      obtain ⟨cur, q1, q2, q3⟩ := hf
      refine (turn_any W (w.heap.size + 1) len cur _ len q2 x.1.1 (by omega) q1 q3 hy1).mono ?_
      rintro e w' ⟨h1, cur', h2, h3, h4, h5⟩
      exact ⟨h1, ⟨cur', h4, by rw [G.len_flip]; exact q2, h3⟩, h5⟩)
    clear hw b2 b5 hf hB
    clear hy1 hy2
    by_cases q : x.1.1 < G.maps c
    · gi_wp2_with (first
        | (refine ⟨trivial, ?_⟩; gi_at_call 36; refine (CallsIn.inRound l (callsIn_wide.2 HM.out)).mono ?_; rintro e w1 ⟨rfl, hw⟩; rw [hw]; clear hw)
        | (refine ⟨trivial, ?_⟩; gi_at_call 73; refine (CallsIn.inRound l (callsIn_wide.2 HT.out)).mono ?_; rintro e w1 ⟨⟨v, rfl⟩, h2, h3⟩))
      refine ⟨⟨h3.size, fun j o hj ho => ?_⟩, ⟨fun j hj => h3.block j ?_ ?_, fun _ => ⟨_, h2⟩⟩, fun z hz => ?_, ?_, ?_, by rw [turned_more]; exact h2, ?_, Nat.le_trans hsz h3.size⟩
      · have hne : j ≠ w.heap.size + 1 := fun e => by
          obtain ⟨cur, q1, _⟩ := HW.out.2.2.2.1
          rw [e, q1] at hj
          cases hj
          cases ho
        rw [h3.block j (Array.getElem?_eq_some_iff.1 hj).1 hne]
        exact hj
      · simp at hj; omega
      · simp at hj; omega
      · rcases List.mem_append.1 hz with hz | hz
        · exact HW.out.1 z hz
        · rw [List.mem_singleton.1 hz]; exact q
      · exact (h3.block _ HW.out.2.1.lt (by omega)).trans HW.out.2.1
      · exact (h3.block _ HW.out.2.2.1.lt (by omega)).trans HW.out.2.2.1
      · exact HW.out.2.2.2.2.trans (h3.below HW.out.2.2.2.2.size (fun j hj e => by omega))
    · gi_wp2_with (first
        | (refine ⟨trivial, ?_⟩; gi_at_call 36; refine (CallsIn.inRound l (callsIn_wide.2 HM.out)).mono ?_; rintro e w1 ⟨rfl, hw⟩; rw [hw]; clear hw))
      exact ⟨KeepsOthers.refl _, rfl, pre, x, rfl, by omega, HW.out.1, HW.out.2.2.1, HW.out.2.2.2.1, HW.out.2.2.2.2⟩
  case done =>
    rintro D xs W hD hS ⟨hw, b2, b5, hf, hB, _⟩ hK
    have hlast := hw _ (List.getElem_mem (l := xs) (n := 8 * len - 1) (by rw [hS.1]; omega))
    have hno : (xs[8 * len - 1]'(by rw [hS.1]; omega)).1.1 = 1920 * k + (8 * len - 1) := by
      obtain ⟨b', _, hx⟩ := hS.2 (8 * len - 1) (by omega)
      rw [List.getElem?_eq_getElem (by rw [hS.1]; omega)] at hx
      rw [Option.some.inj hx]
      exact fF_no _ _ _ _ (by omega)
    rw [turned_ups _ _ _ _ _ _ (Nat.le_refl _) hS] at hf
    have he : G.firsts (List.replicate len 0) (8 * len) = G.first c k := by
      unfold G.first
      rw [← HK.out.2.2.2.2.2, show min (G.maps c - 1920 * k) (8 * len) = 8 * len by omega]
    rw [he] at hf
    have HW := hid (And.intro b5 (And.intro hf (And.intro hB (And.intro hK hD))))
    have c5' := b5.cell
    clear hlast hno b2 b5 hf hB hK hw hS hD
    go_wp2_with fail
    refine ⟨by simp, .inl ⟨_, _, rfl, run_takeDeferred HW.out.2.2.2.1, ?_⟩⟩
    have hll : (G.first c k).length = len := by rw [G.len_first, HK.out.2.2.2.2.2]
    refine ⟨_, results_tmp rfl _ _ _, w.heap.size + 1, len, by rw [hll]; rfl, ?_, by omega, by rw [hll]; exact Nat.le_refl _, Touch.of_below ?_⟩
    · rw [hll]; exact HW.out.2.1.block (World.putObj_heap_other (by have := HW.out.2.2.2.2; omega))
    · exact HW.out.2.2.1.trans (belowK_b (w := wN) h65 _ D _ _ HW.out.2.2.2.2 HW.out.2.2.2.1 rfl rfl)
  case stop =>
    rintro D cd pre W hD hSp ⟨rfl, p0, x, rfl, hx, hy, b5, hf, hB⟩ hK
    obtain ⟨j, hj, hU⟩ := hSp
    have hp : p0.length = j := by have := hU.1; simpa using this
    have hxj : x.1.1 = 1920 * k + j := by
      obtain ⟨b', e, hx'⟩ := hU.2 j (by omega)
      rw [List.getElem?_append_right (by omega), hp, Nat.sub_self] at hx'
      rw [Option.some.inj hx']
      exact fF_no _ _ _ _ hj
    have hu0 : Ups (fF k len HK.out.2.2.2.1 HK.out.2.2.2.2.1 (by have := HK.out.1; omega)) (fun _ _ => True) j p0 := ⟨hp, fun i hi => by
      obtain ⟨b', h2, h3⟩ := hU.2 i (by omega)
      exact ⟨b', h2, by rw [List.getElem?_append_left (by omega)] at h3; exact h3⟩⟩
    rw [turned_ups _ _ _ _ _ _ (by omega) hu0] at hf
    have hjm : j = G.maps c - 1920 * k := by
      by_cases h0 : j = 0
      · omega
      · have h2 := hy _ (List.getElem_mem (l := p0) (n := j - 1) (by omega))
        have h3 : (p0[j - 1]'(by omega)).1.1 = 1920 * k + (j - 1) := by
          obtain ⟨b', _, hx⟩ := hu0.2 (j - 1) (by omega)
          rw [List.getElem?_eq_getElem (by omega)] at hx
          rw [Option.some.inj hx]
          exact fF_no _ _ _ _ (by omega)
        omega
    have he : G.firsts (List.replicate len 0) j = G.first c k := by
      unfold G.first
      rw [← HK.out.2.2.2.2.2, show min (G.maps c - 1920 * k) (8 * len) = j by omega]
    rw [he] at hf
    have HW := hid (And.intro b5 (And.intro hf (And.intro hB (And.intro hK hD))))
    have c5' := b5.cell
    clear b5 hf hB hK hy hU hD hx hjm hxj hp hu0
    refine (wpIn_wide (n := 9)).2 ?_
    go_wp2_with fail
    refine ⟨by simp, .inl ⟨_, _, rfl, run_takeDeferred HW.out.2.2.2.1, ?_⟩⟩
    have hll : (G.first c k).length = len := by rw [G.len_first, HK.out.2.2.2.2.2]
    refine ⟨_, results_tmp rfl _ _ _, w.heap.size + 1, len, by rw [hll]; rfl, ?_, by omega, by rw [hll]; exact Nat.le_refl _, Touch.of_below ?_⟩
    · rw [hll]; exact HW.out.2.1.block (World.putObj_heap_other (by have := HW.out.2.2.2.2; omega))
    · exact HW.out.2.2.1.trans (belowK_b (w := wN) h65 _ D _ _ HW.out.2.2.2.2 HW.out.2.2.2.1 rfl rfl)
end Go.Proofs.YtjlennpoaefllaaGreatDoor
