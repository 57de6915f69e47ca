/- Write. -/
import Derived.Test.YtjbdchgadfhffaaGreatDoorQ09
import Derived.Deep.RegionLaw
import Derived.Maps.AppendAt
import Derived.Test.YtjbdchgadfhffaaGreatDoorQ10
namespace Go.Proofs.YtjbdchgadfhffaaGreatDoor
open Go.RowKit

theorem fold_set : ∀ (L : List Value) (k : Nat) (C : List Value), k + L.length ≤ C.length → (L.zipIdx k).foldl (fun cs x => cs.set x.2 x.1) C = C.take k ++ L ++ C.drop (k + L.length)
  | [], k, C, _ => by simp
  | v :: L, k, C, h => by
    rw [List.zipIdx_cons, List.foldl_cons, fold_set L (k + 1) (C.set k v) (by simp at h ⊢; omega)]
    have := list_seg_step C k v L (by simpa using h)
    rw [this]; simp
theorem fold_arr : ∀ (M : List (Value × Nat)) (C : Array Value), (M.foldl (fun cs x => cs.setIfInBounds (0 + x.2) x.1) C).toList = M.foldl (fun cs x => cs.set x.2 x.1) C.toList
  | [], _ => rfl
  | x :: M, C => by
    rw [List.foldl_cons, List.foldl_cons, fold_arr M, Array.toList_setIfInBounds, Nat.zero_add]
set_option maxRecDepth 100000 in
theorem fill_one (z : Array Value) (cs : List Value) (n : Nat) (hn : cs.length = n) (hz : z.size = n) (h1 : (Value.agg cs.toArray).cells = cs.toArray) :
    Instr.fill (fun i => some (i * n, n)) z [(0, .agg cs.toArray)] = some cs.toArray := by
  have e : (cs.toArray.zipIdx.foldl (fun C (x : Value × Nat) => C.setIfInBounds (0 + x.2) x.1) z) = cs.toArray := by
    apply Array.toList_inj.1
    rw [← Array.foldl_toList, Array.toList_zipIdx, fold_arr, fold_set _ _ _ (by simp; omega)]
    simp; omega
  simp only [Instr.fill, h1, Nat.zero_mul]
  rw [if_neg (by simp; omega)]
  exact congrArg some e

set_option maxRecDepth 100000 in
theorem size76 (w : World) : (sizeOf 117).run Tryz.prog w = .ok 257 w := by
  have h := info76
  cases hq : Tryz.prog.info? 117 with
  | none => rw [hq] at h; cases h
  | some i => rw [hq] at h; have : i.size = 257 := by simpa using h
              simp [sizeOf, typeInfo, hq, this]

set_option maxRecDepth 100000 in
theorem zero76 (w : World) : (zeroValue 117).run Tryz.prog w = .ok (.agg (.int .i64 0 :: S zeros).toArray) w := by kernel_rfl
set_option maxRecDepth 100000 in
theorem buildSlice51 (w : World) (cs : List Value) (h : cs.length = 257) : (Instr.buildSlice 46 1 #[(0, .agg cs.toArray)]).run Tryz.prog w = .ok (.slice (some ⟨w.heap.size, 0, none⟩) 1 1) (w.alloc (.cells cs.toArray 117)) := by
  have hf := fun z hz => fill_one z cs 257 h hz rfl
  unfold Instr.buildSlice
  simp only [Sem.run_bind, run_underlying Tryz.underlying46, Result.andThen_ok, size76, Nat.one_mul]
  rw [if_neg (by decide), if_neg (by decide)]
  simp only [Sem.run_bind, Sem.run_pure, zero76, Result.andThen_ok]
  rw [hf _ (by simp)]
  simp [newRow]
set_option maxRecDepth 100000 in
/-- append onto a row of one's own, as one step of a region that draws. -/
theorem step_append_own {P : Program} {ops : Array Oper} {w : World} {o : Oper} {a : Act} {K : Act → World → Prop} {Q : Exit → Act → World → Prop} {E : Prop} (hg : o.guard = none) (s x : Operand) (t : TypeId)
    (ho : o.op = .call { callee := .builtin .append, args := #[s, x], argTypes := #[t, t] })
    (base : Nat) (e : TypeId) (i : TypeInfo) (z : Value) (size bytes : Nat) (ht : P.underlying t = some (.slice e)) (hi : P.info? e = some i) (hz : i.zero = some z)
    (hsize : i.size = size) (hby : i.bytes = bytes) (hzs : z.cells.size = size) (hsz : 0 < size)
    (v : Value) (n : Nat) (xs : List Value) (hs : a.eval s = v) (hown : w.ownsRow base e size v n xs)
    (ad : Addr) (m c : Nat) (news : List Value) (hx : a.eval x = .slice (some ad) m c) (hl : news.length = m * size) (hnews : ∀ j u, news[j]? = some u → w.cell? (ad.add j) = some u) (h1 : ∀ u ∈ news, u.oneCell' = true)
    (h63 : n + m ≤ maxLen) (hbytes : (n + m) * bytes ≤ 140737488355328) (hbase : base ≤ w.heap.size)
    (h : ∀ v' w', w'.ownsRow base e size v' (n + m) (xs ++ news) → w.grownBy w' v.ownBlock → K (a.put o.dst v') w') :
    if Region.wanted o (yielded ops a.tmps) = true then Oper.wp P o a w K Q else E := by
  have hw : Region.wanted o (yielded ops a.tmps) = true := by simp [Region.wanted, hg]
  rw [if_pos hw]
  exact wp_append_own w s x t ho base e i z size bytes ht hi hz hsize hby hzs hsz v n xs hs hown ad m c news hx hl hnews h1 h63 hbytes hbase (fun v' w' h2 h3 _ => h v' w' h2 h3)

set_option maxRecDepth 100000 in
theorem wp_append_own_at {P : Program} {w : World} {o : Oper} {a : Act} {K : Act → World → Prop} {Q : Exit → Act → World → Prop} (s x : Operand) (t : TypeId)
    (ho : o.op = .call { callee := .builtin .append, args := #[s, x], argTypes := #[t, t] })
    (base : Nat) (e : TypeId) (i : TypeInfo) (z : Value) (size bytes : Nat) (ht : P.underlying t = some (.slice e)) (hi : P.info? e = some i) (hz : i.zero = some z)
    (hsize : i.size = size) (hby : i.bytes = bytes) (hzs : z.cells.size = size) (hsz : 0 < size)
    (v : Value) (n : Nat) (xs : List Value) (hs : a.eval s = v) (hown : w.ownsRow base e size v n xs)
    (ad : Addr) (m c : Nat) (news : List Value) (hx : a.eval x = .slice (some ad) m c) (hl : news.length = m * size) (hnews : ∀ j u, news[j]? = some u → w.cell? (ad.add j) = some u) (h1 : ∀ u ∈ news, u.oneCell' = true)
    (h63 : n + m ≤ maxLen) (hbytes : (n + m) * bytes ≤ 140737488355328) (hbase : base ≤ w.heap.size)
    (h : ∀ v' w', w'.ownsRow base e size v' (n + m) (xs ++ news) → w.grownBy w' v.ownBlock → (v' = .slice none 0 0 ↔ v = .slice none 0 0 ∧ m = 0) → (v'.ownBlock = v.ownBlock ∨ v'.ownBlock = some w.heap.size) → K (a.put o.dst v') w') : o.wp P a w K Q := by
  obtain ⟨v', w', hr, h2, h3, h4, h5⟩ := run_append_own_at (P := P) w base t o.type e i z size bytes ht hi hz hsize hby hzs hsz v n xs hown ad m c news hl hnews h1 h63 hbytes hbase
  unfold Oper.wp execOp
  simp only [ho, resolve, invoke, builtin, Sem.run_bind, Sem.run_pure, Result.andThen_ok, List.map_toArray, List.map_cons, List.map_nil, hs, hx, hr]
  exact h v' w' h2 h3 h4 h5
set_option maxRecDepth 100000 in
theorem wp_buildSlice {P : Program} {o : Oper} {a : Act} {w w' : World} {K : Act → World → Prop} {Q : Exit → Act → World → Prop} {v u : Value} (t : TypeId) (n k : Nat) (x : Operand) (ho : o.op = .buildSlice t n #[(k, x)]) (hx : a.eval x = u)
    (hrun : (Instr.buildSlice t n #[(k, u)]).run P w = .ok v w') (h : K (a.put o.dst v) w') : o.wp P a w K Q := by
  unfold Oper.wp execOp
  simp only [ho, Sem.run_bind, List.map_toArray, List.map_cons, List.map_nil, hx, hrun, Result.andThen_ok]
  exact h

set_option maxRecDepth 100000 in
theorem info76all : ∃ i, Tryz.prog.info? 117 = some i ∧ i.zero = some (.agg (.int .i64 0 :: S zeros).toArray) ∧ i.size = 257 ∧ i.bytes = 264 := by
  have h : (Tryz.prog.info? 117).map (fun i => (i.zero, i.size, i.bytes)) = some (some (.agg (.int .i64 0 :: S zeros).toArray), 257, 264) := by kernel_rfl
  cases hq : Tryz.prog.info? 117 with
  | none => rw [hq] at h; cases h
  | some i =>
    rw [hq] at h
    simp only [Option.map_some, Option.some.injEq, Prod.mk.injEq] at h
    exact ⟨i, rfl, h.1, h.2.1, h.2.2⟩

theorem one_wcells (x : Int × List UInt8) : ∀ v ∈ wcells x, v.oneCell' = true := fun v hv => by
  rcases List.mem_cons.1 hv with rfl | hv
  · exact rfl
  · exact one_S _ v hv

set_option maxRecDepth 100000 in
theorem build76 (w : World) (i : Int) : (Instr.build 117 #[(0, .int .i64 i)]).run Tryz.prog w = .ok (.agg (.int .i64 i :: S zeros).toArray) w := by kernel_rfl

set_option maxRecDepth 100000 in
set_option maxHeartbeats 400000 in
theorem write_un (x : Value) (i : Int) (b : Value) (w : World) (hu : Unmade w x) : Calls Tryz.prog 77 #[x, .int .i64 i, b] w fun e w' => e = .returned (.int .i64 1) ∧ w' = w := by
  go_enter Tryz.func77, Tryz.ntmps77
  go_wp2_with (go_at_call 51; refine (show Calls Tryz.prog 51 #[x] w _ from hu).mono ?_; rintro e w' ⟨rfl, rfl⟩)
  go_ret
  exact ⟨rfl, rfl⟩

set_option maxRecDepth 100000 in
theorem flat_snoc (W : List (Int × List UInt8)) (x : Int × List UInt8) : dflat (W ++ [x]) = dflat W ++ wcells x := by simp [dflat]

/-- The state behind a write. -/
def dSt.wrote (D : dSt) (i : Int) (bs : List UInt8) : dSt := { D with W := D.W ++ [(i, bs)], steps := D.steps + 1, left := less D.left }
/-- What Write leaves: the disk in its new state; its struct's block and that of its waiting writes alone have turned. -/
def PWrite (w : World) (B p hb : Nat) (wv : Value) (D : dSt) (i : Int) (bs : List UInt8) (e : Ending) (w' : World) : Prop :=
  ∃ wv', e = .returned (.int .i64 0) ∧ IsDisk w' B p hb wv' (D.wrote i bs) ∧ Touch (fun k => k = p ∨ wv.ownBlock = some k) w w' ∧ ∀ k, wv'.ownBlock = some k → wv.ownBlock = some k ∨ w.heap.size ≤ k

set_option maxRecDepth 100000 in
/-- The memory's side of a write: behind the append, the store and the step. -/
theorem write_mem {w w' : World} {B p hb : Nat} {wv v' : Value} {D : dSt} (i : Int) (bs : List UInt8) (hbs : bs.length = 256) (hd : IsDisk w B p hb wv D) (A : Obj)
    (hown : w'.ownsRow B 117 257 v' (D.W.length + 1) (dflat D.W ++ wcells (i, bs))) (hgrow : (((w.alloc A).alloc A).drew).grownBy w' wv.ownBlock) (s l : Int) :
    IsDisk ((w'.setCell ⟨p, 2, none⟩ v').setRow p #[.int .i64 D.size, .map (some hb), v', .int .i64 s, .int .i64 l]) B p hb v' { D with W := D.W ++ [(i, bs)], steps := s, left := l } ∧
    Touch (fun k => k = p ∨ wv.ownBlock = some k) w ((w'.setCell ⟨p, 2, none⟩ v').setRow p #[.int .i64 D.size, .map (some hb), v', .int .i64 s, .int .i64 l]) := by
  have hplt : p < w.heap.size := (Array.getElem?_eq_some_iff.1 hd.box).1
  have hpo : some p ≠ wv.ownBlock := fun e => (hd.ne.2 p e.symm).2 rfl
  have hp' : w'.heap[p]? = some (.cells #[.int .i64 D.size, .map (some hb), wv, .int .i64 D.steps, .int .i64 D.left] 48 (0, 0)) := by
    rw [hgrow.block p (by simp; omega) hpo]
    show ((w.alloc _).alloc _).heap[p]? = _
    rw [Below.heap_alloc _ _ _ (by simp; omega), Below.heap_alloc _ _ _ hplt]; exact hd.box
  obtain ⟨es, clock, h1, h2⟩ := hd.held
  have hhlt : hb < w.heap.size := (Array.getElem?_eq_some_iff.1 h1).1
  have hh' : w'.heap[hb]? = some (.map es clock) := by
    rw [hgrow.block hb (by simp; omega) (fun e => (hd.ne.2 hb e.symm).1 rfl)]
    show ((w.alloc _).alloc _).heap[hb]? = _
    rw [Below.heap_alloc _ _ _ (by simp; omega), Below.heap_alloc _ _ _ hhlt]; exact h1
  have hne := hd.ne.1
  have hbox2 := heap_setCell_same w' p 2 _ 48 v' hp'
  have hvp : v'.ownBlock = none ∨ v'.ownBlock ≠ some p := by
    rcases hown.2 with ⟨rfl, _⟩ | ⟨g, cap, cur, rfl, _, hgg, _⟩
    · exact .inl rfl
    · refine .inr (fun e => ?_)
      obtain rfl : g = p := by simpa [Value.ownBlock] using e
      rw [hp'] at hgg
      simp at hgg
  have hT : Touch (fun k => k = p ∨ wv.ownBlock = some k) w w' := Touch.grown (((Touch.refl _ w).alloc _).alloc _).drew hgrow (fun k hk _ => .inr hk)
  refine ⟨⟨?_, ⟨es, clock, ?_, h2⟩, ?_, hd.good, ?_, hd.low⟩, ?_⟩
  · exact setRow_heap _ p _ _ 48 _ hbox2
  · rw [setRow_other _ p hb _ (Ne.symm hne), heap_setCell_other _ _ _ _ (Ne.symm hne)]; exact hh'
  · rw [flat_snoc, List.length_append]
    have k1 : w'.grownBy (w'.setCell ⟨p, 2, none⟩ v') (some p) := ⟨rfl, rfl, rfl, by simp, fun k _ hk => heap_setCell_other w' _ k _ (fun e => hk (by rw [e]))⟩
    have k2 : (w'.setCell ⟨p, 2, none⟩ v').grownBy ((w'.setCell ⟨p, 2, none⟩ v').setRow p #[.int .i64 D.size, .map (some hb), v', .int .i64 s, .int .i64 l]) (some p) := ⟨rfl, rfl, rfl, by simp, fun k _ hk => setRow_other _ p k _ (fun e => hk (by rw [e]))⟩
    exact (hown.kept k1 hvp).kept k2 hvp
  · intro x hx
    rcases List.mem_append.1 hx with hx | hx
    · exact hd.goodW x hx
    · obtain rfl := List.mem_singleton.1 hx; exact hbs
  · exact (hT.setCell (fun _ => .inl rfl) _).setRow (fun _ => .inl rfl) _

set_option maxRecDepth 100000 in
set_option maxHeartbeats 1000000 in
theorem write_ok (B p hb : Nat) (wv : Value) (D : dSt) (i : Int) (g o c : Nat) (bs : List UInt8) (w : World) (hd : IsDisk w B p hb wv D) (hl : D.W.length ≤ 1000) (hi : 0 ≤ i ∧ i < D.size) (hon : D.left ≠ 0)
    (hbs : bs.length = 256) (hr : w.rangeAt g o (S bs)) (hs0 : 0 ≤ D.steps) (hs1 : D.steps < 1000000) (hl0 : -1 ≤ D.left) (hl1 : D.left ≤ 9223372036854775807) :
    Calls Tryz.prog 77 #[.pointer (some ⟨p, 0, none⟩), .int .i64 i, .slice (some ⟨g, o, none⟩) 256 c] w (PWrite w B p hb wv D i bs) := by
  have hzv := zero76
  have hbv := build76
  have d1 : decide (0 < D.size) = true := by have := hi.1; have := hi.2; simp; omega
  have d2 : (decide (0 ≤ i) && decide (i < D.size)) = true := by simp [hi.1, hi.2]
  have d3 : (D.left == 0) = false := by simp [hon]
  have m1 := made_any p D.size w (cellOf hd.box 0)
  have m2 := hasSector_any p D.size i w (cellOf hd.box 0)
  have m3 := off_any p D.left w (cellOf hd.box 4)
  rw [d1] at m1; rw [d2] at m2; rw [d3] at m3
  have M1 := hid m1
  have M2 := hid m2
  have M3 := hid m3
  clear m1 m2 m3 d1 d2 d3
  have hi76 : Hid ((Tryz.prog.info? 117).map (·.size) = some (.int .i64 i :: S zeros).toArray.size) := show _ = _ by rw [info76, List.size_toArray, List.length_cons, length_S, length_zeros]
  have ho76 : Hid ((.int .i64 0 :: S zeros).toArray.size = (.int .i64 i :: S zeros).toArray.size) := show _ = _ by rw [List.size_toArray, List.size_toArray, List.length_cons, List.length_cons]
  have h1c : Hid ((.int .i64 i :: S zeros).toArray.all (·.oneCell') = true) := all_oneCell_toArray (fun v hv => by rcases List.mem_cons.1 hv with rfl | hv; exact rfl; exact one_S _ v hv)
  have hnb : Hid ((S bs).length = Nat.min 256 256) := show _ = _ by rw [length_S, hbs]; rfl
  have hfit : Hid (1 + (S bs).length ≤ (.int .i64 i :: S zeros).length) := show _ ≤ _ by rw [length_S, hbs, List.length_cons, length_S, length_zeros]; omega
  have hcp : (Builtin.copy_ #[37, 37] 3 #[.slice (some ⟨w.heap.size, 1, none⟩) 256 256, .slice (some ⟨g, o, none⟩) 256 c]).run Tryz.prog ((w.alloc (.cells (.int .i64 0 :: S zeros).toArray 117)).setRow w.heap.size (.int .i64 i :: S zeros).toArray) =
      .ok (.int .i64 256) (w.alloc (.cells (wcells (i, bs)).toArray 117)) := by
    have hsrc : ∀ j v, (S bs)[j]? = some v → ((w.alloc (.cells (.int .i64 0 :: S zeros).toArray 117)).setRow w.heap.size (.int .i64 i :: S zeros).toArray).cell? ((⟨g, o, none⟩ : Addr).add j) = some v := fun j v hv => by
      rw [Addr.add_mid, cell_setRow_other _ _ _ _ (Nat.ne_of_lt (World.block_lt_of_cell? w _ (hr j v hv))), World.cell?_alloc_lt _ _ _ (World.block_lt_of_cell? w _ (hr j v hv))]
      exact hr j v hv
    have := run_copy_row Tryz.prog ((w.alloc (.cells (.int .i64 0 :: S zeros).toArray 117)).setRow w.heap.size (.int .i64 i :: S zeros).toArray) 37 37 3 5 w.heap.size 1 256 256 ⟨g, o, none⟩ 256 c (.int .i64 i :: S zeros).toArray 117 (S bs) Tryz.underlying37 info5
      (setRow_heap _ w.heap.size _ _ 117 (0, 0) (heap_alloc_new w _)) hnb.out hsrc hfit.out (one_S bs)
    rw [this, length_S, hbs, setRow_setRow, World.setRow_alloc_new]
    have e : List.take 1 (Value.int .i64 i :: S zeros) ++ S bs ++ List.drop (1 + 256) (Value.int .i64 i :: S zeros) = wcells (i, bs) := by
      have : List.drop (1 + 256) (Value.int .i64 i :: S zeros) = [] := List.drop_eq_nil_of_le (by rw [List.length_cons, length_S, length_zeros]; omega)
      rw [this, List.append_nil]; rfl
    rw [show (Value.int .i64 i :: S zeros).toArray.toList = (Value.int .i64 i :: S zeros) from rfl, e]; rfl
  have hwl : (wcells (i, bs)).length = 257 := length_wcells (i, bs) hbs
  have hplt : p < w.heap.size := (Array.getElem?_eq_some_iff.1 hd.box).1
  have c2 : w.cell? ⟨p, 2, none⟩ = some wv := cellOf hd.box 2
  have HBS := hid (fun w => buildSlice51 w (wcells (i, bs)) hwl)
  have HRNG : Hid ((w.alloc (.cells (wcells (i, bs)).toArray 117)).drew.rangeAt w.heap.size 0 (wcells (i, bs))) := rangeAt_row (w := (w.alloc (.cells (wcells (i, bs)).toArray 117)).drew) (heap_alloc_new w _)
  have HI76 : Hid ((Tryz.prog.info? 117).map (·.size) = some (wcells (i, bs)).length) := show _ = _ by rw [info76, hwl]
  have HS0 : Hid ((w.alloc (.cells (wcells (i, bs)).toArray 117)).drew.cell? ⟨p, 2, none⟩ = some wv ∧ (w.alloc (.cells (wcells (i, bs)).toArray 117)).drew.rangeAt w.heap.size 0 (wcells (i, bs))) :=
    ⟨(World.cell?_alloc_lt _ _ _ hplt).trans c2, HRNG.out⟩
  obtain ⟨i0, hi0, hz0, hz1, hz2⟩ := info76all
  have HOWN : Hid ((((w.alloc (.cells (wcells (i, bs)).toArray 117)).alloc (.cells (wcells (i, bs)).toArray 117)).drew).ownsRow B 117 257 wv D.W.length (dflat D.W)) := (hd.wait.alloc _).alloc _
  have HNEW : Hid (∀ j u, (wcells (i, bs))[j]? = some u → (((w.alloc (.cells (wcells (i, bs)).toArray 117)).alloc (.cells (wcells (i, bs)).toArray 117)).drew).cell? ((⟨w.heap.size + 1, 0, none⟩ : Addr).add j) = some u) := fun j u hu => by
    rw [Addr.add_mid]
    exact rangeAt_row (w := ((w.alloc (.cells (wcells (i, bs)).toArray 117)).alloc (.cells (wcells (i, bs)).toArray 117)).drew) (heap_alloc2_new w _ _) j u hu
  have hpo : some p ≠ wv.ownBlock := fun e => (hd.ne.2 p e.symm).2 rfl
  have HKEEP : Hid (∀ w', (((w.alloc (.cells (wcells (i, bs)).toArray 117)).alloc (.cells (wcells (i, bs)).toArray 117)).drew).grownBy w' wv.ownBlock → w'.heap[p]? = some (.cells #[.int .i64 D.size, .map (some hb), wv, .int .i64 D.steps, .int .i64 D.left] 48 (0, 0))) := fun w' hg => by
    rw [hg.block p (by simp; omega) hpo]
    show ((w.alloc _).alloc _).heap[p]? = _
    rw [Below.heap_alloc _ _ _ (by simp; omega), Below.heap_alloc _ _ _ hplt]; exact hd.box
  have HS1 : Hid (((w.alloc (.cells (wcells (i, bs)).toArray 117)).drew.alloc (.cells (wcells (i, bs)).toArray 117)).cell? ⟨p, 2, none⟩ = some wv ∧ ((w.alloc (.cells (wcells (i, bs)).toArray 117)).drew.alloc (.cells (wcells (i, bs)).toArray 117)).rangeAt w.heap.size 0 (wcells (i, bs))) :=
    ⟨(World.cell?_alloc_lt _ _ _ (Nat.lt_of_lt_of_le hplt (by simp))).trans HS0.out.1, World.rangeAt_alloc HS0.out.2 _⟩
  have hgo : some w.heap.size ≠ wv.ownBlock := fun e => by
    have := (hd.wait.lt w.heap.size e.symm).2
    omega
  have HS2 : Hid (∀ w', (((w.alloc (.cells (wcells (i, bs)).toArray 117)).alloc (.cells (wcells (i, bs)).toArray 117)).drew).grownBy w' wv.ownBlock → w'.cell? ⟨p, 2, none⟩ = some wv ∧ w'.rangeAt w.heap.size 0 (wcells (i, bs))) := fun w' hg =>
    ⟨cellOf (HKEEP.out w' hg) 2, fun j v hv => hg.cell (HS1.out.2 j v hv) hgo⟩
  have HBS2 : Hid (B ≤ ((w.alloc (.cells (wcells (i, bs)).toArray 117)).drew.alloc (.cells (wcells (i, bs)).toArray 117)).heap.size) := show _ ≤ _ by have := hd.low.1; simp; omega
  have H3 : Hid (D.W.length + 1 ≤ maxLen) := show _ ≤ _ by unfold maxLen; omega
  have H4 : Hid ((D.W.length + 1) * 264 ≤ 140737488355328) := show _ ≤ _ by omega
  have HL1 : Hid ((wcells (i, bs)).length = 1 * 257) := hwl
  have HZ : Hid ((Value.agg (.int .i64 0 :: S zeros).toArray).cells.size = 257) := show _ = _ by show (Value.int .i64 0 :: S zeros).toArray.size = 257; rw [List.size_toArray, List.length_cons, length_S, length_zeros]
  have HR := hid hr
  have HD := hid hd
  have HBL := hid hbs
  clear hr hd hbs hpo hwl hgo
  go_enter Tryz.func77, Tryz.ntmps77
  go_wp2_with (first
    | (go_at_call 51; refine M1.out.mono ?_; rintro e _ ⟨rfl, hw⟩; rw [hw])
    | (go_at_call 66; refine M2.out.mono ?_; rintro e _ ⟨rfl, hw⟩; rw [hw])
    | (go_at_call 63; refine M3.out.mono ?_; rintro e _ ⟨rfl, hw⟩; rw [hw])
    | (refine wpList_store_row rfl 117 _ _ rfl w.heap.size (.int .i64 i :: S zeros).toArray rfl rfl 117 (.int .i64 0 :: S zeros).toArray (heap_alloc_new w _) hi76.out ho76.out h1c.out ?_))
  refine E_begin (S := fun w' => w'.cell? ⟨p, 2, none⟩ = some wv ∧ w'.rangeAt w.heap.size 0 (wcells (i, bs))) (X := 10) (by kernel_rfl) ?_
  refine E_put (i := 0) 31 (v := .pointer (some ⟨p, 0, none⟩)) rfl rfl (by kernel_rfl) (by kernel_rfl) (by kernel_rfl) (by kernel_rfl) (fun _ _ _ h => h) (Or.inl ⟨by rfl, fun _ _ => rfl⟩) HS0.out ?_
  refine E_put (i := 1) 32 (v := .pointer (some ⟨p, 0, none⟩)) rfl rfl (by kernel_rfl) (by kernel_rfl) (by kernel_rfl) (by kernel_rfl) (fun _ _ _ h => h) (Or.inl ⟨by rfl, fun _ _ => rfl⟩) HS0.out ?_
  simp only [Act.put, List.setIfInBounds_toArray, List.set_cons_zero, List.set_cons_succ]
  refine E_put (i := 2) 33 (v := .pointer (some ⟨p, 0, none⟩)) rfl rfl (by kernel_rfl) (by kernel_rfl) (by kernel_rfl) (by kernel_rfl) (fun _ _ _ h => h) (Or.inl ⟨by rfl, fun _ _ => by go_simp⟩) HS0.out ?_
  simp only [Act.put, List.setIfInBounds_toArray, List.set_cons_zero, List.set_cons_succ]
  refine E_put (i := 3) 34 (v := .pointer (some ⟨p, 2, none⟩)) rfl rfl (by kernel_rfl) (by kernel_rfl) (by kernel_rfl) (by kernel_rfl) (fun _ _ _ h => h) (Or.inl ⟨by rfl, fun _ _ => by go_simp⟩) HS0.out ?_
  simp only [Act.put, List.setIfInBounds_toArray, List.set_cons_zero, List.set_cons_succ]
  refine E_put (i := 4) 35 (v := wv) rfl rfl (by kernel_rfl) (by kernel_rfl) (by kernel_rfl) (by kernel_rfl) (fun _ _ _ h => h) (Or.inl ⟨by rfl, fun w' hw' => ?y4⟩) HS0.out ?_
  case y4 => have hc := hw'.1; clear hw'; go_simp
  simp only [Act.put, List.setIfInBounds_toArray, List.set_cons_zero, List.set_cons_succ]
  refine E_put (i := 5) 36 (v := .agg (wcells (i, bs)).toArray) rfl rfl (by kernel_rfl) (by kernel_rfl) (by kernel_rfl) (by kernel_rfl) (fun _ _ _ h => h) (yieldsIf_load_mid (by rfl) 117 _ rfl w.heap.size 0 rfl (wcells (i, bs)) _ (fun w' h => h.2) Tryz.underlying117 rfl HI76.out) HS0.out ?_
  simp only [Act.put, List.setIfInBounds_toArray, List.set_cons_zero, List.set_cons_succ]
  refine E_do (i := 6) (some 37) (by kernel_rfl) rfl rfl rfl (fun K hK => ?_)
  refine wp_buildSlice 46 1 0 (.tmp 36) rfl rfl (HBS.out _) ?_
  refine hK _ _ (fun _ => HS1.out) ?_
  clear hK K
  simp only [Act.put, List.setIfInBounds_toArray, List.set_cons_zero, List.set_cons_succ, World.size_drew, World.size_alloc]
  refine E_do (i := 7) (some 38) (by kernel_rfl) rfl rfl rfl (fun K hK => ?_)
  refine wp_append_own_at _ _ 46 rfl B 117 i0 _ 257 264 Tryz.underlying46 hi0 hz0 hz1 hz2 HZ.out (by decide) wv D.W.length (dflat D.W) rfl HOWN.out ⟨w.heap.size + 1, 0, none⟩ 1 1 (wcells (i, bs)) rfl HL1.out HNEW.out (one_wcells _) H3.out H4.out HBS2.out ?_
  intro v' w' hown' hgrow' hnil' hat'
  have hp' := HKEEP.out w' hgrow'
  obtain ⟨g', cap', hv'⟩ : ∃ g' cap', v' = .slice (some ⟨g', 0, none⟩) (D.W.length + 1) cap' := by
    rcases hown'.2 with ⟨_, c0⟩ | ⟨g', cap', _, c0, _⟩
    · omega
    · exact ⟨g', cap', c0⟩
  subst hv'
  have HAT := hid hat'
  clear hnil' hat'
  refine hK _ _ (fun _ => HS2.out w' hgrow') ?_
  clear hK K
  simp only [Act.put, List.setIfInBounds_toArray, List.set_cons_zero, List.set_cons_succ]
  have c2' : w'.cell? ⟨p, 2, none⟩ = some wv := cellOf hp' 2
  have f2' : w'.frozen? ⟨p, 2, none⟩ = false := frozen_of_row w' p 2 _ 48 hp'
  refine E_do (i := 8) (some 39) (by kernel_rfl) rfl rfl rfl (fun K hK => ?_)
  go_simp
  refine hK (.pointer (some ⟨p, 0, none⟩)) _ (fun _ => HS2.out w' hgrow') ?_
  clear hK K
  simp only [Act.put, List.setIfInBounds_toArray, List.set_cons_zero, List.set_cons_succ]
  refine E_do (i := 9) (some 40) (by kernel_rfl) rfl rfl rfl (fun K hK => ?_)
  go_simp
  refine hK (.pointer (some ⟨p, 2, none⟩)) _ (fun _ => HS2.out w' hgrow') ?_
  clear hK K
  simp only [Act.put, List.setIfInBounds_toArray, List.set_cons_zero, List.set_cons_succ]
  refine E_do (i := 10) none (by kernel_rfl) rfl rfl rfl (fun K hK => ?_)
  go_simp
  refine hK undef _ (fun h => absurd rfl h) ?_
  clear hK K
  simp only [Act.put]
  refine E_done (by kernel_rfl) ?_ _
  have hbox2 := hid (heap_setCell_same w' p 2 _ 48 (.slice (some ⟨g', 0, none⟩) (D.W.length + 1) cap') hp')
  have HG := hid hgrow'
  have HO := hid hown'
  clear hp' hgrow' hown'
  go_wp2_with (go_at_call 90; refine (step_any p _ _ _ D.steps D.left _ hbox2.out hs0 hs1 hl0 hl1).mono ?_; rintro e w4 ⟨rfl, hw4⟩)
  go_ret
  have hm := write_mem i bs HBL.out HD.out _ HO.out HG.out (D.steps + 1) (less D.left)
  subst hw4
  refine ⟨_, rfl, hm.1, hm.2, fun k hk => ?_⟩
  rcases HAT.out with c | c
  · exact .inl (by rw [← c]; exact hk)
  · rw [c] at hk
    simp only [Option.some.injEq, World.size_drew, World.size_alloc] at hk
    exact .inr (by omega)

end Go.Proofs.YtjbdchgadfhffaaGreatDoor
