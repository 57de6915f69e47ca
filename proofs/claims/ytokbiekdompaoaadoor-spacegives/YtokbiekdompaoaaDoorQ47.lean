/- What SpaceGives knows between two calls. -/
import Derived.Test.YtokbiekdompaoaaDoorQ43
import Derived.Test.YtokbiekdompaoaaDoorQ46
namespace Go.Proofs.YtokbiekdompaoaaDoor
open Go.RowKit

/-- Thirty truths. -/
def arr30 (f : Nat → Bool) : Array Value := ((List.range 30).map fun i => Value.bool (f i)).toArray
abbrev AB (f : Nat → Bool) : Obj := .cells (arr30 f) 54 (0, 0)
set_option maxRecDepth 100000 in
theorem arr30_get (f : Nat → Bool) {i : Nat} (h : i < 30) : (arr30 f)[i]? = some (.bool (f i)) := by
  unfold arr30
  simp [h]
set_option maxRecDepth 100000 in
theorem arr30_set (f : Nat → Bool) {i : Nat} (h : i < 30) (b : Bool) : (arr30 f).setIfInBounds i (.bool b) = arr30 (fun j => if j = i then b else f j) := by
  apply Array.ext'
  rw [Array.toList_setIfInBounds]
  unfold arr30
  rw [List.toList_toArray, List.toList_toArray]
  apply List.ext_getElem?
  intro j
  by_cases q : j = i
  · subst q
    rw [List.getElem?_set_self (by simp [h])]
    simp [h]
  · rw [List.getElem?_set_ne (fun e => q e.symm)]
    by_cases q2 : j < 30
    · simp [q2, q]
    · simp [q2]
set_option maxRecDepth 100000 in
theorem size_arr30 (f : Nat → Bool) : (arr30 f).size = 30 := by simp [arr30]
set_option maxRecDepth 100000 in
theorem one_arr30 (f : Nat → Bool) : (arr30 f).all (·.oneCell') = true := by
  rw [Array.all_eq_true_iff_forall_mem]
  intro v hv
  unfold arr30 at hv
  simp at hv
  obtain ⟨i, _, rfl⟩ := hv
  rfl
set_option maxRecDepth 100000 in
theorem info30 (f : Nat → Bool) : (Tryd.prog.info? 54).map (·.size) = some (arr30 f).size := by rw [size_arr30]; kernel_rfl
set_option maxRecDepth 100000 in
theorem zero30 (w : World) : (zeroValue 54).run Tryd.prog w = .ok (.agg (arr30 fun _ => false)) w := by kernel_rfl
set_option maxRecDepth 100000 in
theorem lx_accept {w0 w : World} {X : List (Nat × Obj)} {p dp : Nat} {s : F.Po} {D : dSt} {n k : Nat} (h : LpX w0 w X p dp s D n k) :
    Calls Tryd.prog 19 #[Ptr p] w (fun e w' => ∃ z : Int, e = .returned (.int .i64 z) ∧ Hid (LpX w0 w' X p dp (F.accS s) D n k)) := by
  have hl := h.e.len
  obtain ⟨O, OD, h, q⟩ := h
  refine (baccept_any h.pool (fun j c => h.lt j (.inl c)) hl).mono ?_
  rintro e w' ⟨rfl, H⟩
  obtain ⟨O', h1, h2, h3⟩ := H.out
  exact ⟨_, rfl, lx_moved h q h1 h2 h3 h.good.acc (h.pok.same ⟨rfl, rfl, rfl⟩ rfl)⟩
/-- What is known: the pool's page, and both arrays. -/
def Gv (w wr : World) (sp p dp N4 N5 n : Nat) (now was : Nat → Bool) : Prop := ∃ x y fr, LpX w wr [(sp, SBox p), (N4, AB now), (N5, AB was)] p dp (G.S1 30 8 x fr true (if fr then G.pg 0 y else [])) (dSt.new (30 : Nat)) n 0 ∧ G.CellOf 30 x now ∧ G.CellOf 30 y was ∧ (fr = false → x = y) ∧ now 0 = true ∧ was 0 = true ∧ (sp ≠ N4 ∧ sp ≠ N5 ∧ N4 ≠ N5 ∧ w.heap.size ≤ N4 ∧ w.heap.size ≤ N5)
section
variable {w wr : World} {sp p dp N4 N5 n : Nat} {now was : Nat → Bool}
set_option maxRecDepth 100000 in
theorem Gv.adds {wr' : World} (h : Gv w wr sp p dp N4 N5 n now was) (hA : Adds wr wr') : Gv w wr' sp p dp N4 N5 n now was := by
  obtain ⟨x, y, fr, h, r⟩ := h
  exact ⟨x, y, fr, h.add hA, r⟩
set_option maxRecDepth 100000 in
theorem Gv.le {n' : Nat} (h : Gv w wr sp p dp N4 N5 n now was) (hn : n ≤ n') : Gv w wr sp p dp N4 N5 n' now was := by
  obtain ⟨x, y, fr, h, r⟩ := h
  exact ⟨x, y, fr, h.le hn, r⟩
set_option maxRecDepth 100000 in
theorem Gv.boxS (h : Gv w wr sp p dp N4 N5 n now was) : wr.heap[sp]? = some (SBox p) := by
  obtain ⟨x, y, fr, h, r⟩ := h
  exact h.at (sp, SBox p) List.mem_cons_self
set_option maxRecDepth 100000 in
theorem Gv.boxN (h : Gv w wr sp p dp N4 N5 n now was) : wr.heap[N4]? = some (AB now) := by
  obtain ⟨x, y, fr, h, r⟩ := h
  exact h.at (N4, AB now) (by simp)
set_option maxRecDepth 100000 in
theorem Gv.boxW (h : Gv w wr sp p dp N4 N5 n now was) : wr.heap[N5]? = some (AB was) := by
  obtain ⟨x, y, fr, h, r⟩ := h
  exact h.at (N5, AB was) (by simp)
set_option maxRecDepth 100000 in
theorem Gv.old (h : Gv w wr sp p dp N4 N5 n now was) : Adds w wr := by
  obtain ⟨x, y, fr, h, r⟩ := h
  exact h.e.adds
set_option maxRecDepth 100000 in
theorem Gv.cell (h : Gv w wr sp p dp N4 N5 n now was) {i : Nat} (hi : i < 30) : wr.cell? ⟨N4, i, none⟩ = some (.bool (now i)) ∧ wr.frozen? ⟨N4, i, none⟩ = false := by
  refine ⟨by rw [cellOf h.boxN]; exact arr30_get now hi, by simp [World.frozen?, h.boxN]⟩
set_option maxRecDepth 100000 in
/-- A truth of the first array is laid. -/
theorem lx_bit {X0 : List (Nat × Obj)} {s : F.Po} {D : dSt} {kk : Nat} (h : LpX w wr [(sp, SBox p), (N4, AB now), (N5, AB was)] p dp s D n kk) (h1 : sp ≠ N4) (h2 : N4 ≠ N5) (h3 : w.heap.size ≤ N4) {i : Nat} (hi : i < 30) (b : Bool) (_ : X0 = X0) :
    LpX w (wr.setCell ⟨N4, i, none⟩ (.bool b)) [(sp, SBox p), (N4, AB fun j => if j = i then b else now j), (N5, AB was)] p dp s D n kk := by
  have hb : wr.heap[N4]? = some (AB now) := h.at (N4, AB now) (by simp)
  have hT : Touch (fun j => j = N4) wr (wr.setCell ⟨N4, i, none⟩ (.bool b)) := Touch.setCell (T := fun j => j = N4) (Touch.refl _ wr) (p := ⟨N4, i, none⟩) (fun _ => rfl) _
  refine h.turn hT ⟨(N4, AB now), by simp, rfl⟩ h3 (fun y hy => ?_)
  simp only [List.mem_cons, List.not_mem_nil, or_false] at hy
  rcases hy with rfl | rfl | rfl
  · have hl := h.at (sp, SBox p) (by simp)
    exact ⟨⟨(sp, SBox p), by simp, rfl⟩, by rw [hT.block sp (Array.getElem?_eq_some_iff.1 hl).1 h1]; exact hl⟩
  · exact ⟨⟨(N4, AB now), by simp, rfl⟩, by rw [heap_setCell_same wr N4 i _ 54 _ hb, arr30_set now hi b]⟩
  · have hl := h.at (N5, AB was) (by simp)
    exact ⟨⟨(N5, AB was), by simp, rfl⟩, by rw [hT.block N5 (Array.getElem?_eq_some_iff.1 hl).1 (fun e => h2 e.symm)]; exact hl⟩
set_option maxRecDepth 100000 in
/-- One array is laid into the other. -/
theorem lx_row {s : F.Po} {D : dSt} {kk M1 : Nat} {f g : Nat → Bool} {M2 : Nat} (h : LpX w wr [(sp, SBox p), (M1, AB f), (M2, AB g)] p dp s D n kk) (h1 : sp ≠ M2) (h2 : M1 ≠ M2) (h3 : w.heap.size ≤ M2) : LpX w (wr.setRow M2 (arr30 f)) [(sp, SBox p), (M1, AB f), (M2, AB f)] p dp s D n kk := by
  have hb : wr.heap[M2]? = some (AB g) := h.at (M2, AB g) (by simp)
  have hT : Touch (fun j => j = M2) wr (wr.setRow M2 (arr30 f)) := (Touch.refl (fun j => j = M2) wr).setRow (g := M2) (fun _ => rfl) _
  refine h.turn hT ⟨(M2, AB g), by simp, rfl⟩ h3 (fun y hy => ?_)
  simp only [List.mem_cons, List.not_mem_nil, or_false] at hy
  rcases hy with rfl | rfl | rfl
  · have hl := h.at (sp, SBox p) (by simp)
    exact ⟨⟨(sp, SBox p), by simp, rfl⟩, by rw [hT.block sp (Array.getElem?_eq_some_iff.1 hl).1 h1]; exact hl⟩
  · have hl := h.at (M1, AB f) (by simp)
    exact ⟨⟨(M1, AB f), by simp, rfl⟩, by rw [hT.block M1 (Array.getElem?_eq_some_iff.1 hl).1 h2]; exact hl⟩
  · exact ⟨⟨(M2, AB g), by simp, rfl⟩, setRow_heap wr M2 _ _ 54 _ hb⟩
set_option maxRecDepth 100000 in
/-- The page that is given. -/
theorem Gv.alloc (h : Gv w wr sp p dp N4 N5 n now was) (hn : n + 10 ≤ 1000000) {i : Nat} (hi : i < 30) (hf : now i = false) (hlt : ∀ j, j < i → now j = true) :
    Calls Tryd.prog 12 #[Ptr sp] wr (fun e w' => e = .returned (.tuple #[.int .i64 (i : Int), .int .i64 0]) ∧ Hid (w'.cell? ⟨N4, i, none⟩ = some (.bool false) ∧ w'.frozen? ⟨N4, i, none⟩ = false ∧ Gv w (w'.setCell ⟨N4, i, none⟩ (.bool true)) sp p dp N4 N5 (n + 10) (fun j => if j = i then true else now j) was)) := by
  obtain ⟨x, y, fr, h, hx, hy, he, h0, h0', h1, h2, h3, h4, h5⟩ := h
  refine (s1_alloc h List.mem_cons_self hn (by decide) (by decide) (by decide) (hx.may (by decide) (by decide) h0) (hx.some (by decide) hi hf hlt)).mono ?_
  rintro e w' ⟨rfl, H⟩
  have hb : w'.heap[N4]? = some (AB now) := H.out.at (N4, AB now) (by simp)
  refine ⟨rfl, by rw [cellOf hb, arr30_get now hi, hf], by simp [World.frozen?, hb], G.flip x i, y, true, ?_, ?_, hy, fun c => (by cases c), ?_, h0', h1, h2, h3, h4, h5⟩
  · have q := lx_bit (X0 := []) H.out h1 h3 h4 hi true rfl
    have ew : wsOf x fr true (if fr then G.pg 0 y else []) = G.pg 0 y := by
      unfold wsOf
      cases fr with
      | true => rfl
      | false => rw [he rfl]; rfl
    rw [ew] at q
    exact q
  · have q := hx.flip (by decide) hi
    refine ⟨q.1, fun j => ?_⟩
    rw [q.2 j]
    by_cases c : j = i
    · subst c; simp [hf]
    · simp [c]
  · by_cases c : 0 = i
    · simp [c]
    · simp [c, h0]
set_option maxRecDepth 100000 in
theorem Gv.full (h : Gv w wr sp p dp N4 N5 n now was) (hn : n + 10 ≤ 1000000) (hf : ∀ j, j < 30 → now j = true) :
    Calls Tryd.prog 12 #[Ptr sp] wr (fun e w' => e = .returned (.tuple #[.int .i64 0, .int .i64 30]) ∧ Hid (Gv w w' sp p dp N4 N5 (n + 10) now was)) := by
  obtain ⟨x, y, fr, h, hx, r⟩ := h
  refine (s1_full h List.mem_cons_self hn (by decide) (by decide) (by decide) (hx.may (by decide) (by decide) r.2.2.1) (hx.none hf)).mono ?_
  rintro e w' ⟨rfl, H⟩
  exact ⟨rfl, x, y, fr, H.out, hx, r⟩
set_option maxRecDepth 100000 in
theorem Gv.free (h : Gv w wr sp p dp N4 N5 n now was) (hn : n + 10 ≤ 1000000) {i : Nat} (hi1 : 1 ≤ i) (hi : i < 30) (hf : now i = true) :
    Calls Tryd.prog 16 #[Ptr sp, .int .i64 (i : Int)] wr (fun e w' => e = .returned (.int .i64 0) ∧ Hid (w'.cell? ⟨N4, i, none⟩ = some (.bool true) ∧ w'.frozen? ⟨N4, i, none⟩ = false ∧ Gv w (w'.setCell ⟨N4, i, none⟩ (.bool false)) sp p dp N4 N5 (n + 10) (fun j => if j = i then false else now j) was)) := by
  obtain ⟨x, y, fr, h, hx, hy, he, h0, h0', h1, h2, h3, h4, h5⟩ := h
  refine (s1_free h List.mem_cons_self hn (by decide) (by decide) (by decide) (hx.may (by decide) (by decide) h0) hi1 hi (by rw [hx.2, hf]; simp [hi])).mono ?_
  rintro e w' ⟨rfl, H⟩
  have hb : w'.heap[N4]? = some (AB now) := H.out.at (N4, AB now) (by simp)
  refine ⟨rfl, by rw [cellOf hb, arr30_get now hi, hf], by simp [World.frozen?, hb], G.flip x i, y, true, ?_, ?_, hy, fun c => (by cases c), ?_, h0', h1, h2, h3, h4, h5⟩
  · have q := lx_bit (X0 := []) H.out h1 h3 h4 hi false rfl
    have ew : wsOf x fr true (if fr then G.pg 0 y else []) = G.pg 0 y := by
      unfold wsOf
      cases fr with
      | true => rfl
      | false => rw [he rfl]; rfl
    rw [ew] at q
    exact q
  · have q := hx.flip (by decide) hi
    refine ⟨q.1, fun j => ?_⟩
    rw [q.2 j]
    by_cases c : j = i
    · subst c; simp [hf]
    · simp [c]
  · have : ¬ 0 = i := by omega
    simp [this, h0]
set_option maxRecDepth 100000 in
theorem Gv.none (h : Gv w wr sp p dp N4 N5 n now was) (hn : n + 10 ≤ 1000000) {i : Nat} (hi1 : 1 ≤ i) (hi : i < 30) (hf : now i = false) :
    Calls Tryd.prog 16 #[Ptr sp, .int .i64 (i : Int)] wr (fun e w' => e = .returned (.int .i64 40) ∧ Hid (w'.cell? ⟨N4, i, none⟩ = some (.bool false) ∧ w'.frozen? ⟨N4, i, none⟩ = false ∧ Gv w (w'.setCell ⟨N4, i, none⟩ (.bool false)) sp p dp N4 N5 (n + 10) now was)) := by
  obtain ⟨x, y, fr, h, hx, hy, he, h0, h0', h1, h2, h3, h4, h5⟩ := h
  refine (s1_none h List.mem_cons_self hn (by decide) (by decide) (by decide) (hx.may (by decide) (by decide) h0) hi1 hi (by rw [hx.2, hf]; simp)).mono ?_
  rintro e w' ⟨rfl, H⟩
  have hb : w'.heap[N4]? = some (AB now) := H.out.at (N4, AB now) (by simp)
  have q := lx_bit (X0 := []) H.out h1 h3 h4 hi false rfl
  have ef : (fun j => if j = i then false else now j) = now := by
    funext j
    by_cases c : j = i
    · subst c; simp [hf]
    · simp [c]
  rw [ef] at q
  exact ⟨rfl, by rw [cellOf hb, arr30_get now hi, hf], by simp [World.frozen?, hb], x, y, fr, q, hx, hy, he, h0, h0', h1, h2, h3, h4, h5⟩
set_option maxRecDepth 100000 in
theorem Gv.accept (h : Gv w wr sp p dp N4 N5 n now was) :
    Calls Tryd.prog 19 #[Ptr p] wr (fun e w' => ∃ z : Int, e = .returned (.int .i64 z) ∧ Hid (w'.heap[N4]? = some (AB now) ∧ w'.heap[N5]? = some (AB was) ∧ Gv w (w'.setRow N5 (arr30 now)) sp p dp N4 N5 n now now)) := by
  obtain ⟨x, y, fr, h, hx, hy, he, h0, h0', h1, h2, h3, h4, h5⟩ := h
  refine (lx_accept h).mono ?_
  rintro e w' ⟨z, rfl, H⟩
  refine ⟨z, rfl, H.out.at (N4, AB now) (by simp), H.out.at (N5, AB was) (by simp), x, x, false, ?_, hx, hx, fun _ => rfl, h0, h0, h1, h2, h3, h4, h5⟩
  have q := lx_row H.out h2 h3 h5
  cases fr with
  | true => exact q
  | false => exact q
set_option maxRecDepth 100000 in
/-- Drop. -/
theorem lx_drop {w0 w : World} {X : List (Nat × Obj)} {p dp : Nat} {s : F.Po} {D : dSt} {n k : Nat} (h : LpX w0 w X p dp s D n k) (hg : F.Good (F.dropS s)) :
    Calls Tryd.prog 20 #[Ptr p] w (fun e w' => ∃ z : Int, e = .returned (.int .i64 z) ∧ Hid (LpX w0 w' X p dp (F.dropS s) D n k)) := by
  have hl := h.e.len
  obtain ⟨O, OD, h, q⟩ := h
  refine (bdrop_any h.pool (fun j c => h.lt j (.inl c)) hl).mono ?_
  rintro e w' ⟨rfl, H⟩
  obtain ⟨O', h1, h2, h3⟩ := H.out
  exact ⟨_, rfl, lx_moved h q h1 h2 h3 hg (h.pok.same ⟨rfl, rfl, rfl⟩ rfl)⟩
set_option maxRecDepth 100000 in
theorem good1 {c : Nat} (hc : 1 ≤ c) {mo : Nat} (hm : 1 ≤ mo) {x : List UInt8} (hx : x.length ≤ 240) : F.Good (G.S1 c mo x false true []) := by
  refine ⟨fun f hf => ?_, fun f hf => ?_, fun f hf a => ?_, ?_, ?_⟩
  · obtain rfl := List.mem_singleton.1 hf
    exact ⟨Int.le_refl _, by show (0 : Int) < (c : Int); omega⟩
  · obtain rfl := List.mem_singleton.1 hf
    exact ⟨_, G.pg_read (by decide) hx, rfl⟩
  · obtain rfl := List.mem_singleton.1 hf
    cases a
  · show ((1 : Nat) : Int) ≤ (mo : Int)
    omega
  · exact List.nodup_cons.2 ⟨List.not_mem_nil, List.nodup_nil⟩
set_option maxRecDepth 100000 in
theorem Gv.drop (h : Gv w wr sp p dp N4 N5 n now was) :
    Calls Tryd.prog 20 #[Ptr p] wr (fun e w' => ∃ z : Int, e = .returned (.int .i64 z) ∧ Hid (w'.heap[N4]? = some (AB now) ∧ w'.heap[N5]? = some (AB was) ∧ Gv w (w'.setRow N4 (arr30 was)) sp p dp N4 N5 n was was)) := by
  obtain ⟨x, y, fr, h, hx, hy, he, h0, h0', h1, h2, h3, h4, h5⟩ := h
  have hyl : y.length ≤ 240 := by rw [hy.1]; exact G.cells_le _ _
  have hs : F.dropS (G.S1 30 8 x fr true (if fr then G.pg 0 y else [])) = G.S1 30 8 y false true [] := by
    cases fr with
    | true => exact G.drop1 30 8 x y
    | false => rw [he rfl]; exact G.drop1' 30 8 y true _
  refine (lx_drop h (by rw [hs]; exact good1 (by decide) (by decide) hyl)).mono ?_
  rintro e w' ⟨z, rfl, H⟩
  rw [hs] at H
  refine ⟨z, rfl, H.out.at (N4, AB now) (by simp), H.out.at (N5, AB was) (by simp), y, y, false, ?_, hy, hy, fun _ => rfl, h0', h0', h1, h2, h3, h4, h5⟩
  have q := lx_row (M1 := N5) (M2 := N4) (f := was) (g := now) (H.out.fewer (fun z hz => by simp at hz ⊢; rcases hz with c | c | c <;> simp [c])) h1 (fun e => h3 e.symm) h4
  exact q.fewer (fun z hz => by simp at hz ⊢; rcases hz with c | c | c <;> simp [c])
set_option maxRecDepth 100000 in
theorem Gv.taken (h : Gv w wr sp p dp N4 N5 n now was) (hn : n + 10 ≤ 1000000) :
    Calls Tryd.prog 13 #[Ptr sp] wr (fun e w' => ∃ a cap, e = .returned (.tuple #[.slice a (G.nums 30 now).length cap, .int .i64 0]) ∧ Hid (Gv w w' sp p dp N4 N5 (n + 10) now was ∧ NAt w' a (G.nums 30 now))) := by
  obtain ⟨x, y, fr, h, hx, hy, he, h0, h0', r⟩ := h
  refine (s1_taken h List.mem_cons_self hn (by decide) (by decide) (by decide) (hx.may (by decide) (by decide) h0)).mono ?_
  rintro e w' ⟨v, Y, rfl, H⟩
  rw [hx.taken (by decide)] at H
  obtain ⟨a, cap, ev, hna⟩ := H.out.2.2.nat H.out.1
  exact ⟨a, cap, by rw [ev], ⟨x, y, fr, H.out.1.fewer H.out.2.1, hx, hy, he, h0, h0', r⟩, hna⟩
end
end Go.Proofs.YtokbiekdompaoaaDoor
