/- Write. -/
import Derived.Test.YtokbiekdompaoaaDoorQ20
import Derived.Deep.RegionLaw
import Derived.Maps.AppendAt
import Derived.Test.YtokbiekdompaoaaDoorQ21
namespace Go.Proofs.YtokbiekdompaoaaDoor
open Go.RowKit

theorem fold_set : ∀ (L : List Value) (k : Nat) (C : List Value), k + L.length ≤ C.length → (L.zipIdx k).foldl (fun cs x => cs.set x.2 x.1) C = C.take k ++ L ++ C.drop (k + L.length)
  | [], k, C, _ => by simp
  | v :: L, k, C, h => by
    rw [List.zipIdx_cons, List.foldl_cons, fold_set L (k + 1) (C.set k v) (by simp at h ⊢; omega)]
    have := list_seg_step C k v L (by simpa using h)
    rw [this]; simp
theorem fold_arr : ∀ (M : List (Value × Nat)) (C : Array Value), (M.foldl (fun cs x => cs.setIfInBounds (0 + x.2) x.1) C).toList = M.foldl (fun cs x => cs.set x.2 x.1) C.toList
  | [], _ => rfl
  | x :: M, C => by
    rw [List.foldl_cons, List.foldl_cons, fold_arr M, Array.toList_setIfInBounds, Nat.zero_add]
set_option maxRecDepth 100000 in
theorem fill_one (z : Array Value) (cs : List Value) (n : Nat) (hn : cs.length = n) (hz : z.size = n) (h1 : (Value.agg cs.toArray).cells = cs.toArray) :
    Instr.fill (fun i => some (i * n, n)) z [(0, .agg cs.toArray)] = some cs.toArray := by
  have e : (cs.toArray.zipIdx.foldl (fun C (x : Value × Nat) => C.setIfInBounds (0 + x.2) x.1) z) = cs.toArray := by
    apply Array.toList_inj.1
    rw [← Array.foldl_toList, Array.toList_zipIdx, fold_arr, fold_set _ _ _ (by simp; omega)]
    simp; omega
  simp only [Instr.fill, h1, Nat.zero_mul]
  rw [if_neg (by simp; omega)]
  exact congrArg some e

set_option maxRecDepth 100000 in
theorem size76 (w : World) : (sizeOf 136).run Tryd.prog w = .ok 257 w := by
  have h := info76
  cases hq : Tryd.prog.info? 136 with
  | none => rw [hq] at h; cases h
  | some i => rw [hq] at h; have : i.size = 257 := by simpa using h
              simp [sizeOf, typeInfo, hq, this]

set_option maxRecDepth 100000 in
theorem zero76 (w : World) : (zeroValue 136).run Tryd.prog w = .ok (.agg (.int .i64 0 :: S zeros).toArray) w := by kernel_rfl
set_option maxRecDepth 100000 in
theorem buildSlice51 (w : World) (cs : List Value) (h : cs.length = 257) : (Instr.buildSlice 60 1 #[(0, .agg cs.toArray)]).run Tryd.prog w = .ok (.slice (some ⟨w.heap.size, 0, none⟩) 1 1) (w.alloc (.cells cs.toArray 136)) := by
  have hf := fun z hz => fill_one z cs 257 h hz rfl
  unfold Instr.buildSlice
  simp only [Sem.run_bind, run_underlying Tryd.underlying60, Result.andThen_ok, size76, Nat.one_mul]
  rw [if_neg (by decide), if_neg (by decide)]
  simp only [Sem.run_bind, Sem.run_pure, zero76, Result.andThen_ok]
  rw [hf _ (by simp)]
  simp [newRow]
set_option maxRecDepth 100000 in
/-- append onto a row of one's own, as one step of a region that draws. -/
theorem step_append_own {P : Program} {ops : Array Oper} {w : World} {o : Oper} {a : Act} {K : Act → World → Prop} {Q : Exit → Act → World → Prop} {E : Prop} (hg : o.guard = none) (s x : Operand) (t : TypeId)
    (ho : o.op = .call { callee := .builtin .append, args := #[s, x], argTypes := #[t, t] })
    (base : Nat) (e : TypeId) (i : TypeInfo) (z : Value) (size bytes : Nat) (ht : P.underlying t = some (.slice e)) (hi : P.info? e = some i) (hz : i.zero = some z)
    (hsize : i.size = size) (hby : i.bytes = bytes) (hzs : z.cells.size = size) (hsz : 0 < size)
    (v : Value) (n : Nat) (xs : List Value) (hs : a.eval s = v) (hown : w.ownsRow base e size v n xs)
    (ad : Addr) (m c : Nat) (news : List Value) (hx : a.eval x = .slice (some ad) m c) (hl : news.length = m * size) (hnews : ∀ j u, news[j]? = some u → w.cell? (ad.add j) = some u) (h1 : ∀ u ∈ news, u.oneCell' = true)
    (h63 : n + m ≤ maxLen) (hbytes : (n + m) * bytes ≤ 140737488355328) (hbase : base ≤ w.heap.size)
    (h : ∀ v' w', w'.ownsRow base e size v' (n + m) (xs ++ news) → w.grownBy w' v.ownBlock → K (a.put o.dst v') w') :
    if Region.wanted o (yielded ops a.tmps) = true then Oper.wp P o a w K Q else E := by
  have hw : Region.wanted o (yielded ops a.tmps) = true := by simp [Region.wanted, hg]
  rw [if_pos hw]
  exact wp_append_own w s x t ho base e i z size bytes ht hi hz hsize hby hzs hsz v n xs hs hown ad m c news hx hl hnews h1 h63 hbytes hbase (fun v' w' h2 h3 _ => h v' w' h2 h3)

set_option maxRecDepth 100000 in
theorem wp_append_own_at {P : Program} {w : World} {o : Oper} {a : Act} {K : Act → World → Prop} {Q : Exit → Act → World → Prop} (s x : Operand) (t : TypeId)
    (ho : o.op = .call { callee := .builtin .append, args := #[s, x], argTypes := #[t, t] })
    (base : Nat) (e : TypeId) (i : TypeInfo) (z : Value) (size bytes : Nat) (ht : P.underlying t = some (.slice e)) (hi : P.info? e = some i) (hz : i.zero = some z)
    (hsize : i.size = size) (hby : i.bytes = bytes) (hzs : z.cells.size = size) (hsz : 0 < size)
    (v : Value) (n : Nat) (xs : List Value) (hs : a.eval s = v) (hown : w.ownsRow base e size v n xs)
    (ad : Addr) (m c : Nat) (news : List Value) (hx : a.eval x = .slice (some ad) m c) (hl : news.length = m * size) (hnews : ∀ j u, news[j]? = some u → w.cell? (ad.add j) = some u) (h1 : ∀ u ∈ news, u.oneCell' = true)
    (h63 : n + m ≤ maxLen) (hbytes : (n + m) * bytes ≤ 140737488355328) (hbase : base ≤ w.heap.size)
    (h : ∀ v' w', w'.ownsRow base e size v' (n + m) (xs ++ news) → w.grownBy w' v.ownBlock → (v' = .slice none 0 0 ↔ v = .slice none 0 0 ∧ m = 0) → (v'.ownBlock = v.ownBlock ∨ v'.ownBlock = some w.heap.size) → K (a.put o.dst v') w') : o.wp P a w K Q := by
  obtain ⟨v', w', hr, h2, h3, h4, h5⟩ := run_append_own_at (P := P) w base t o.type e i z size bytes ht hi hz hsize hby hzs hsz v n xs hown ad m c news hl hnews h1 h63 hbytes hbase
  unfold Oper.wp execOp
  simp only [ho, resolve, invoke, builtin, Sem.run_bind, Sem.run_pure, Result.andThen_ok, List.map_toArray, List.map_cons, List.map_nil, hs, hx, hr]
  exact h v' w' h2 h3 h4 h5
set_option maxRecDepth 100000 in
theorem wp_buildSlice {P : Program} {o : Oper} {a : Act} {w w' : World} {K : Act → World → Prop} {Q : Exit → Act → World → Prop} {v u : Value} (t : TypeId) (n k : Nat) (x : Operand) (ho : o.op = .buildSlice t n #[(k, x)]) (hx : a.eval x = u)
    (hrun : (Instr.buildSlice t n #[(k, u)]).run P w = .ok v w') (h : K (a.put o.dst v) w') : o.wp P a w K Q := by
  unfold Oper.wp execOp
  simp only [ho, Sem.run_bind, List.map_toArray, List.map_cons, List.map_nil, hx, hrun, Result.andThen_ok]
  exact h

set_option maxRecDepth 100000 in
theorem info76all : ∃ i, Tryd.prog.info? 136 = some i ∧ i.zero = some (.agg (.int .i64 0 :: S zeros).toArray) ∧ i.size = 257 ∧ i.bytes = 264 := by
  have h : (Tryd.prog.info? 136).map (fun i => (i.zero, i.size, i.bytes)) = some (some (.agg (.int .i64 0 :: S zeros).toArray), 257, 264) := by kernel_rfl
  cases hq : Tryd.prog.info? 136 with
  | none => rw [hq] at h; cases h
  | some i =>
    rw [hq] at h
    simp only [Option.map_some, Option.some.injEq, Prod.mk.injEq] at h
    exact ⟨i, rfl, h.1, h.2.1, h.2.2⟩

theorem one_wcells (x : Int × List UInt8) : ∀ v ∈ wcells x, v.oneCell' = true := fun v hv => by
  rcases List.mem_cons.1 hv with rfl | hv
  · exact rfl
  · exact one_S _ v hv

set_option maxRecDepth 100000 in
theorem build76 (w : World) (i : Int) : (Instr.build 136 #[(0, .int .i64 i)]).run Tryd.prog w = .ok (.agg (.int .i64 i :: S zeros).toArray) w := by kernel_rfl

set_option maxRecDepth 100000 in
theorem flat_snoc (W : List (Int × List UInt8)) (x : Int × List UInt8) : dflat (W ++ [x]) = dflat W ++ wcells x := by simp [dflat]

/-- The state behind a write. -/
def dSt.wrote (D : dSt) (i : Int) (bs : List UInt8) : dSt := { D with W := D.W ++ [(i, bs)], steps := D.steps + 1, left := less D.left }
/-- What Write leaves: the disk in its new state; its struct's block and that of its waiting writes alone have turned. -/
def PWrite (w : World) (B p hb : Nat) (wv : Value) (D : dSt) (i : Int) (bs : List UInt8) (e : Ending) (w' : World) : Prop :=
  ∃ wv', e = .returned (.int .i64 0) ∧ IsDisk w' B p hb wv' (D.wrote i bs) ∧ Touch (fun k => k = p ∨ wv.ownBlock = some k) w w' ∧ ∀ k, wv'.ownBlock = some k → wv.ownBlock = some k ∨ w.heap.size ≤ k

set_option maxRecDepth 100000 in
/-- The memory's side of a write: behind the append, the store and the step. -/
theorem write_mem {w w' : World} {B p hb : Nat} {wv v' : Value} {D : dSt} (i : Int) (bs : List UInt8) (hbs : bs.length = 256) (hd : IsDisk w B p hb wv D) (A : Obj)
    (hown : w'.ownsRow B 136 257 v' (D.W.length + 1) (dflat D.W ++ wcells (i, bs))) (hgrow : (((w.alloc A).alloc A).drew).grownBy w' wv.ownBlock) (s l : Int) :
    IsDisk ((w'.setCell ⟨p, 2, none⟩ v').setRow p #[.int .i64 D.size, .map (some hb), v', .int .i64 s, .int .i64 l]) B p hb v' { D with W := D.W ++ [(i, bs)], steps := s, left := l } ∧
    Touch (fun k => k = p ∨ wv.ownBlock = some k) w ((w'.setCell ⟨p, 2, none⟩ v').setRow p #[.int .i64 D.size, .map (some hb), v', .int .i64 s, .int .i64 l]) := by
  have hplt : p < w.heap.size := (Array.getElem?_eq_some_iff.1 hd.box).1
  have hpo : some p ≠ wv.ownBlock := fun e => (hd.ne.2 p e.symm).2 rfl
  have hp' : w'.heap[p]? = some (.cells #[.int .i64 D.size, .map (some hb), wv, .int .i64 D.steps, .int .i64 D.left] 62 (0, 0)) := by
    rw [hgrow.block p (by simp; omega) hpo]
    show ((w.alloc _).alloc _).heap[p]? = _
    rw [Below.heap_alloc _ _ _ (by simp; omega), Below.heap_alloc _ _ _ hplt]; exact hd.box
  obtain ⟨es, clock, h1, h2⟩ := hd.held
  have hhlt : hb < w.heap.size := (Array.getElem?_eq_some_iff.1 h1).1
  have hh' : w'.heap[hb]? = some (.map es clock) := by
    rw [hgrow.block hb (by simp; omega) (fun e => (hd.ne.2 hb e.symm).1 rfl)]
    show ((w.alloc _).alloc _).heap[hb]? = _
    rw [Below.heap_alloc _ _ _ (by simp; omega), Below.heap_alloc _ _ _ hhlt]; exact h1
  have hne := hd.ne.1
  have hbox2 := heap_setCell_same w' p 2 _ 62 v' hp'
  have hvp : v'.ownBlock = none ∨ v'.ownBlock ≠ some p := by
    rcases hown.2 with ⟨rfl, _⟩ | ⟨g, cap, cur, rfl, _, hgg, _⟩
    · exact .inl rfl
    · refine .inr (fun e => ?_)
      obtain rfl : g = p := by simpa [Value.ownBlock] using e
      rw [hp'] at hgg
      simp at hgg
  have hT : Touch (fun k => k = p ∨ wv.ownBlock = some k) w w' := Touch.grown (((Touch.refl _ w).alloc _).alloc _).drew hgrow (fun k hk _ => .inr hk)
  refine ⟨⟨?_, ⟨es, clock, ?_, h2⟩, ?_, hd.good, ?_, hd.low⟩, ?_⟩
  · exact setRow_heap _ p _ _ 62 _ hbox2
  · rw [setRow_other _ p hb _ (Ne.symm hne), heap_setCell_other _ _ _ _ (Ne.symm hne)]; exact hh'
  · rw [flat_snoc, List.length_append]
    have k1 : w'.grownBy (w'.setCell ⟨p, 2, none⟩ v') (some p) := ⟨rfl, rfl, rfl, by simp, fun k _ hk => heap_setCell_other w' _ k _ (fun e => hk (by rw [e]))⟩
    have k2 : (w'.setCell ⟨p, 2, none⟩ v').grownBy ((w'.setCell ⟨p, 2, none⟩ v').setRow p #[.int .i64 D.size, .map (some hb), v', .int .i64 s, .int .i64 l]) (some p) := ⟨rfl, rfl, rfl, by simp, fun k _ hk => setRow_other _ p k _ (fun e => hk (by rw [e]))⟩
    exact (hown.kept k1 hvp).kept k2 hvp
  · intro x hx
    rcases List.mem_append.1 hx with hx | hx
    · exact hd.goodW x hx
    · obtain rfl := List.mem_singleton.1 hx; exact hbs
  · exact (hT.setCell (fun _ => .inl rfl) _).setRow (fun _ => .inl rfl) _

end Go.Proofs.YtokbiekdompaoaaDoor
