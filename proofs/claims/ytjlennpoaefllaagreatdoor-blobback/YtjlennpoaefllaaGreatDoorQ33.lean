/- Texts put together: GP0, GLeast. -/
import Derived.Test.YtjlennpoaefllaaGreatDoorQ26
import Derived.Test.YtjlennpoaefllaaGreatDoorQ32
import Derived.Test.YtjlennpoaefllaaGreatDoorQ24
import Derived.Deep.CutBlock
import Derived.Deep.DeepCutAuto
/- A pool on both sides: the program's side alone is called; the reference's blocks are nobody's then. -/
namespace Go.Proofs.YtjlennpoaefllaaGreatDoor
open Go.RowKit

set_option maxRecDepth 100000 in
theorem row_inB {W : World} {B e sz n : Nat} {v : Value} {xs : List Value} (h : W.ownsRow B e sz v n xs) {j : Nat} (hj : v.ownBlock = some j) : ∃ x ∈ rowBk W v, x.1 = j := by
  rcases h.2 with ⟨rfl, _⟩ | ⟨g, cap, cur, rfl, _, hg, _⟩
  · cases hj
  · obtain rfl : g = j := by simpa [Value.ownBlock] using hj
    exact ⟨(g, .cells cur e (0, 0)), mem_rowBk.2 ⟨rfl, hg⟩, rfl⟩
set_option maxRecDepth 100000 in
theorem row_back {W W' : World} {B e sz n : Nat} {v : Value} {xs : List Value} (h : W.ownsRow B e sz v n xs) (hk : ∀ y ∈ rowBk W v, W'.heap[y.1]? = some y.2) : W'.ownsRow B e sz v n xs := by
  refine ⟨h.1, ?_⟩
  rcases h.2 with q | ⟨g, cap, cur, rfl, hb, hg, rest⟩
  · exact .inl q
  · exact .inr ⟨g, cap, cur, rfl, hb, hk (g, _) (mem_rowBk.2 ⟨rfl, hg⟩), rest⟩
set_option maxRecDepth 100000 in
theorem PwE.lpx {w0 w : World} {X : List (Nat × Obj)} {p d q r : Nat} {s s' : F.Po} {D D' : dSt} {n k : Nat} (h : PwE w0 w X p d q r s s' D D' n k) :
    ∃ Y, LpX w0 w (X ++ Y) p d s D n k ∧ ∀ (w' : World) (Z : List (Nat × Obj)) (s2 : F.Po) (D2 : dSt) (n2 k2 : Nat), LpX w0 w' Z p d s2 D2 n2 k2 → (∀ x ∈ Y, x ∈ Z) → ∀ X2 : List (Nat × Obj), (∀ x ∈ X2, x ∈ Z ∧ ∀ y ∈ Y, y.1 ≠ x.1) → PwE w0 w' X2 p d q r s2 s' D2 D' n2 k2 := by
  obtain ⟨O, OD, OQ, OR, h⟩ := h
  obtain ⟨lv, hq⟩ := h.isq
  obtain ⟨hv, wv, hr, h1, h2, h3⟩ := h.ro
  have hbq := hq.box
  have hbr := hr.box
  refine ⟨(q, QBox r s' lv) :: (r, .cells #[hv, wv, .int .i64 D'.steps, .int .i64 D'.left] 84 (0, 0)) :: (rowBk w lv ++ (rowBk w hv ++ rowBk w wv)), ⟨O, OD, h.wl, fun x hx => ?_⟩, fun w' Z s2 D2 n2 k2 hL hZ X2 hX2 => ?_⟩
  · rcases List.mem_append.1 hx with hx | hx
    · exact ⟨(h.oth x hx).1, fun c => (h.oth x hx).2 (.inl c)⟩
    · have key : w.heap[x.1]? = some x.2 ∧ (OQ x.1 ∨ OR x.1) := by
        rcases List.mem_cons.1 hx with rfl | hx
        · exact ⟨hbq, .inl hq.oq⟩
        · rcases List.mem_cons.1 hx with rfl | hx
          · exact ⟨hbr, .inr h1⟩
          · rcases List.mem_append.1 hx with hx | hx
            · exact ⟨(mem_rowBk.1 hx).2, .inl (hq.ol _ (mem_rowBk.1 hx).1)⟩
            · rcases List.mem_append.1 hx with hx | hx
              · exact ⟨(mem_rowBk.1 hx).2, .inr (h2 _ (mem_rowBk.1 hx).1)⟩
              · exact ⟨(mem_rowBk.1 hx).2, .inr (h3 _ (mem_rowBk.1 hx).1)⟩
      exact ⟨key.1, fun c => h.ap _ c key.2⟩
  · obtain ⟨O2, OD2, hl, hz⟩ := hL
    have at' : ∀ x, x ∈ (q, QBox r s' lv) :: (r, Obj.cells #[hv, wv, .int .i64 D'.steps, .int .i64 D'.left] 84 (0, 0)) :: (rowBk w lv ++ (rowBk w hv ++ rowBk w wv)) → w'.heap[x.1]? = some x.2 ∧ ¬ (O2 x.1 ∨ OD2 x.1) := fun x hx => hz x (hZ x hx)
    have aq := at' _ List.mem_cons_self
    have ar := at' _ (List.mem_cons_of_mem _ List.mem_cons_self)
    have al : ∀ y ∈ rowBk w lv, w'.heap[y.1]? = some y.2 ∧ ¬ (O2 y.1 ∨ OD2 y.1) := fun y hy => at' y (List.mem_cons_of_mem _ (List.mem_cons_of_mem _ (List.mem_append_left _ hy)))
    have ah : ∀ y ∈ rowBk w hv, w'.heap[y.1]? = some y.2 ∧ ¬ (O2 y.1 ∨ OD2 y.1) := fun y hy => at' y (List.mem_cons_of_mem _ (List.mem_cons_of_mem _ (List.mem_append_right _ (List.mem_append_left _ hy))))
    have aw : ∀ y ∈ rowBk w wv, w'.heap[y.1]? = some y.2 ∧ ¬ (O2 y.1 ∨ OD2 y.1) := fun y hy => at' y (List.mem_cons_of_mem _ (List.mem_cons_of_mem _ (List.mem_append_right _ (List.mem_append_right _ hy))))
    have inY : ∀ j, ((j = q ∨ lv.ownBlock = some j) ∨ (j = r ∨ hv.ownBlock = some j ∨ wv.ownBlock = some j)) → ∃ y, y ∈ (q, QBox r s' lv) :: (r, Obj.cells #[hv, wv, .int .i64 D'.steps, .int .i64 D'.left] 84 (0, 0)) :: (rowBk w lv ++ (rowBk w hv ++ rowBk w wv)) ∧ y.1 = j := fun j c => by
      rcases c with (rfl | c) | rfl | c | c
      · exact ⟨_, List.mem_cons_self, rfl⟩
      · obtain ⟨y, hy, e⟩ := row_inB hq.row c
        exact ⟨y, List.mem_cons_of_mem _ (List.mem_cons_of_mem _ (List.mem_append_left _ hy)), e⟩
      · exact ⟨_, List.mem_cons_of_mem _ List.mem_cons_self, rfl⟩
      · obtain ⟨y, hy, e⟩ := row_inB hr.held c
        exact ⟨y, List.mem_cons_of_mem _ (List.mem_cons_of_mem _ (List.mem_append_right _ (List.mem_append_left _ hy))), e⟩
      · obtain ⟨y, hy, e⟩ := row_inB hr.wait c
        exact ⟨y, List.mem_cons_of_mem _ (List.mem_cons_of_mem _ (List.mem_append_right _ (List.mem_append_right _ hy))), e⟩
    have inQ : ∀ j, (j = q ∨ lv.ownBlock = some j) → OQ j := fun j c => by
      rcases c with rfl | c
      · exact hq.oq
      · exact hq.ol j c
    have inR : ∀ j, (j = r ∨ hv.ownBlock = some j ∨ wv.ownBlock = some j) → OR j := fun j c => by
      rcases c with rfl | c | c
      · exact h1
      · exact h2 j c
      · exact h3 j c
    refine ⟨O2, OD2, fun j => j = q ∨ lv.ownBlock = some j, fun j => j = r ∨ hv.ownBlock = some j ∨ wv.ownBlock = some j, hl, ⟨lv, ⟨aq.1, row_back hq.row (fun y hy => (al y hy).1), .inl rfl, fun k hk => .inr hk⟩⟩, ⟨hv, wv, ⟨ar.1, row_back hr.held (fun y hy => (ah y hy).1), row_back hr.wait (fun y hy => (aw y hy).1), hr.places, hr.low, hr.size, hr.good, hr.goodW⟩, .inl rfl, fun k hk => .inr (.inl hk), fun k hk => .inr (.inr hk)⟩, fun j c c' => h.apq j (inQ j c) (inR j c'), fun j c c' => ?_, fun j c => h.low j (c.imp (inQ j) (inR j)), fun j c => ?_, fun x hx => ?_⟩
    · obtain ⟨y, hy, e⟩ := inY j c'
      exact (at' y hy).2 (by rw [e]; exact c)
    · obtain ⟨y, hy, e⟩ := inY j c
      rw [← e]
      exact (Array.getElem?_eq_some_iff.1 (at' y hy).1).1
    · obtain ⟨q1, q2⟩ := hX2 x hx
      refine ⟨(hz x q1).1, fun c => ?_⟩
      rcases c with c | c
      · exact (hz x q1).2 c
      · obtain ⟨y, hy, e⟩ := inY x.1 c
        exact q2 y hy e
end Go.Proofs.YtjlennpoaefllaaGreatDoor

/- leastLeft: the least page that a map does not have as taken. -/
namespace Go.Proofs.YtjlennpoaefllaaGreatDoor
open Go.RowKit Go.Shelf
attribute [local go_sem] Oper.semAt_some

def leftX (c : Nat) (x : Nat × Bool) : Bool := !x.2 && decide (x.1 < c)
/-- Between two rounds of leastLeft; behind one that leaves. -/
def LeI (c N3 N6 N7 sp : Nat) (w : World) (pre : List (Nat × Bool)) (W : World) : Prop := (∀ x ∈ pre, leftX c x = false) ∧ Boxed W N3 37 (Ptr sp) ∧ Boxed W N6 3 (.int .i64 0) ∧ Boxed W N7 4 (.bool false) ∧ Below w.heap.size w W
def LeX (c N6 N7 : Nat) (w : World) (cd : Code) (pre : List (Nat × Bool)) (W : World) : Prop := cd = .ret ∧ ∃ p0 x, pre = p0 ++ [x] ∧ leftX c x = true ∧ (∀ y ∈ p0, leftX c y = false) ∧ Boxed W N6 3 (.int .i64 (x.1 : Int)) ∧ Boxed W N7 4 (.bool true) ∧ Below w.heap.size w W
set_option maxRecDepth 100000 in
theorem LeX_own (B c N6 N7 : Nat) (w : World) (cd : Code) (hB : w.heap.size ≤ B) : OwnFrom B (LeX c N6 N7 w cd) := by
  rintro pre A A' row ⟨h1, p0, x, h2, h3, h4, b6, b7, hb⟩ hg hr
  refine ⟨h1, p0, x, h2, h3, h4, (Own.from (boxed_own N6 3 (fun _ : Unit => .int .i64 (x.1 : Int))) B) () A A' row b6 hg hr, (Own.from (boxed_own N7 4 (fun _ : Unit => .bool true)) B) () A A' row b7 hg hr, (ownFrom_below (β := Unit) (Nat.le_refl _) hB) () A A' row hb hg hr⟩
set_option maxRecDepth 100000 in
theorem least_at {c k j : Nat} {bs : List UInt8} (hj : j < 8 * bs.length) (h1 : G.isLeft c k bs j = true) (h2 : ∀ i, i < j → G.isLeft c k bs i = false) : G.least c k bs = some j := by
  unfold G.least
  rw [List.find?_range_eq_some]
  exact ⟨h1, List.mem_range.2 hj, fun i hi => by rw [h2 i hi]; rfl⟩
set_option maxRecDepth 100000 in
theorem least_none {c k : Nat} {bs : List UInt8} (h : ∀ i, i < 8 * bs.length → G.isLeft c k bs i = false) : G.least c k bs = none := by
  unfold G.least
  rw [List.find?_eq_none]
  intro i hi
  rw [h i (List.mem_range.1 hi)]
  simp
/-- What leastLeft tells. -/
def leVal (k : Nat) : Option Nat → Value
  | some i => .tuple #[.int .i64 ((1920 * k + i : Nat) : Int), .bool true]
  | none => .tuple #[.int .i64 0, .bool false]
set_option maxRecDepth 100000 in
set_option maxHeartbeats 2000000 in
theorem sleast_any {w : World} {sp p c : Nat} (h : Spc w sp p c) {k : Nat} (hk : k ≤ 3) (b o : Nat) (bs : List UInt8) (len cap : Nat) (hl : bs.length = len) (hA : At w (some ⟨b, o, none⟩) bs) (h1 : 1 ≤ len) (hlen : len ≤ 240) : Calls Tryz.prog 72 #[Ptr sp, .int .i64 (k : Int), .slice (some ⟨b, o, none⟩) len cap] w (Adding (leVal k (G.least c k bs)) w) := by
  have HS := hid h
  have HK := hid (And.intro hk (And.intro h1 (And.intro hlen hl)))
  have hg : b < w.heap.size := by
    obtain ⟨b', o', e, hc'⟩ := hA 0 (bs[0]'(by omega)) (by simp)
    cases e
    exact World.block_lt_of_cell? w _ hc'
  obtain ⟨wc, hwc⟩ : ∃ wc, wc = ((w.alloc (.cells #[Ptr sp] 37)).alloc (.cells #[.int .i64 0] 3)).alloc (.cells #[.bool false] 4) := ⟨_, rfl⟩
  have hA7 : Adds w wc := by rw [hwc]; exact (((Touch.refl _ w).alloc _).alloc _).alloc _
  have hzc : wc.heap.size = w.heap.size + 3 := by rw [hwc]; simp
  obtain ⟨wN, hwN⟩ : ∃ wN, wN = (wc.alloc (.cells #[.int .i64 (k : Int)] 3)).alloc (.cells #[.slice (some ⟨b, o, none⟩) len cap] 43) := ⟨_, rfl⟩
  have hz : wN.heap.size = w.heap.size + 5 := by rw [hwN]; simp; omega
  have H8 := hid (show Boxed wN w.heap.size 37 (Ptr sp) ∧ Boxed wN (w.heap.size + 1) 3 (.int .i64 0) ∧ Boxed wN (w.heap.size + 2) 4 (.bool false) ∧ Below w.heap.size w wN by
    have e1 := Boxed.new (w.alloc (.cells #[Ptr sp] 37)) 3 (.int .i64 0)
    have e2 := Boxed.new ((w.alloc (.cells #[Ptr sp] 37)).alloc (.cells #[.int .i64 0] 3)) 4 (.bool false)
    rw [World.size_alloc] at e1 e2
    rw [World.size_alloc] at e2
    rw [hwN, hwc]
    exact ⟨((((Boxed.new w 37 (Ptr sp)).alloc _).alloc _).alloc _).alloc _, ((e1.alloc _).alloc _).alloc _, (e2.alloc _).alloc _, Adds.below (((((Touch.refl _ w).alloc _).alloc _).alloc _).alloc _ |>.alloc _)⟩)
  have HB := hid (show Calls Tryz.prog 71 #[.int .i64 (k : Int), .slice (some ⟨b, o, none⟩) len cap] wc (fun e w' => e = .returned (.func (.func 118) #[] #[Ptr (wc.heap.size + 1), Ptr wc.heap.size]) ∧ w' = wN) by rw [hwN]; exact bits_any wc k _ ⟨_, _, _, rfl⟩)
  rw [hwc] at HB
  have HR := hid (bits_reads hwN (hA.adds hA7) hl h1 hlen (by omega) 8 (by omega))
  rw [hzc] at HR
  clear hwN hwc h hA hA7 hzc hl h1 hlen
  have hk3 : (k : Int) ≤ 3 := by omega
  refine calls_marks Tryz.func72 rfl ?_
  simp only [Tryz.ntmps72, List.size_toArray, List.length_cons, List.length_nil, Nat.reduceAdd, Nat.reduceSub, Array.replicate_succ, Array.replicate_zero, List.push_toArray, List.append_toArray, List.nil_append, List.cons_append]
  go_wp2_with (go_at_call 71; refine HB.out.mono ?_; rintro e w1 ⟨rfl, hw⟩; rw [hw]; clear hw)
  have h65 : w.heap.size ≤ wN.heap.size := by omega
  refine (wpIn_wide (n := 9)).1 (wpIn_rangeFunc_ownF (F := Fence.wide) (n := 9) rfl (by omega) (gf := 118) (lb := #[Ptr (w.heap.size + 3 + 1), Ptr (w.heap.size + 3)]) rfl trivial (enters_of Tryz.func118 (by kernel_rfl) rfl)
    HR.out (fun h k => kp3_t h k) (kp3_b (fun j hj => by simp at hj; omega)) (Below.refl _ _) (fun _ => rfl)
    (LeI c w.heap.size (w.heap.size + 1) (w.heap.size + 1 + 1) sp w) (LeX c (w.heap.size + 1) (w.heap.size + 1 + 1) w)
    (OwnFrom.and (ownFrom_pure _ _) (OwnFrom.and (Own.from (boxed_own w.heap.size 37 (fun _ => _)) _) (OwnFrom.and (Own.from (boxed_own (w.heap.size + 1) 3 (fun _ => _)) _) (OwnFrom.and (Own.from (boxed_own (w.heap.size + 1 + 1) 4 (fun _ => _)) _) (ownFrom_below (Nat.le_refl _) h65)))))
    (fun cd => LeX_own _ _ _ _ _ cd h65)
    ⟨fun x hx => absurd hx List.not_mem_nil, H8.out⟩
    (fun x => { tmps := #[Ptr sp, Value.int IntKind.i64 (k : Int), Value.slice (some ⟨b, o, none⟩) len cap, Value.pointer (some ⟨w.heap.size, 0, none⟩), undef, undef, Value.pointer (some ⟨w.heap.size + 1, 0, none⟩), Value.pointer (some ⟨w.heap.size + 1 + 1, 0, none⟩), .int .i64 (x.1 : Int), .bool x.2, Value.int IntKind.i64 (k : Int), Value.slice (some ⟨b, o, none⟩) len cap, Value.func (Fn.func 118) #[] #[Ptr (w.heap.size + 1 + 1 + 1 + 1), Ptr (w.heap.size + 1 + 1 + 1)], .int .i64 (x.1 : Int), .bool x.2, undef, undef, undef, undef, undef, undef, undef, undef, undef, undef, undef, undef], defers := [] }) ?assign ?body ?done ?stop)
  case assign =>
    intro l x W K hK
    gi_wp2
    exact hK
  case body =>
    rintro l pre ⟨y, t⟩ W ⟨hw, b3, b6, b7, hB⟩ _
    have HW := hid (And.intro hw (And.intro b3 (And.intro b6 (And.intro b7 hB))))
    have HSp := hid (HS.out.below hB HS.out.lt.1 HS.out.lt.2)
    have c3 := b3.cell
    have c6 := b6.cell
    have f6 := b6.frozen
    have c7 := b7.cell
    have f7 := b7.frozen
    have c7' := (b7.other (B' := w.heap.size + 1) (by omega) (.int .i64 (y : Int))).cell
    have f7' := (b7.other (B' := w.heap.size + 1) (by omega) (.int .i64 (y : Int))).frozen
    have cp : W.cell? ⟨sp, 0, none⟩ = some (Ptr p) := by rw [cellOf HSp.out.box]; rfl
    have HN := hid (scount_any HSp.out)
    clear hw b3 b6 b7 hB
    have HX := hid (show leftX c (y, t) = (!t && decide (y < c)) from rfl)
    have HOn := hid (fun (ht : leftX c (y, t) = false) => show KeepsOthers W W ∧ Kp3 [b, w.heap.size + 3, w.heap.size + 3 + 1] W W ∧ LeI c w.heap.size (w.heap.size + 1) (w.heap.size + 1 + 1) sp w (pre ++ [(y, t)]) W from
      ⟨KeepsOthers.refl _, fun _ _ => rfl, fun x hx => by
        rcases List.mem_append.1 hx with hx | hx
        · exact HW.out.1 x hx
        · rw [List.mem_singleton.1 hx]; exact ht, HW.out.2⟩)
    cases t
    · by_cases q : y < c
      · gi_wp2_with (refine ⟨trivial, ?_⟩; gi_at_call 74; refine (CallsIn.inRound l (callsIn_wide.2 HN.out)).mono ?_; rintro e w1 ⟨rfl, hw⟩; rw [hw]; clear hw)
        refine ⟨(KeepsOthers.setCell _ _ _).trans (KeepsOthers.setCell _ _ _), rfl, pre, (y, false), rfl, by rw [HX.out]; simp [q], HW.out.1, (HW.out.2.2.1.set _).other (by omega) _, (HW.out.2.2.2.1.other (by omega) _).set _, ?_⟩
        exact (HW.out.2.2.2.2.setCell (p := ⟨w.heap.size + 1, 0, none⟩) (by simp) _).setCell (p := ⟨w.heap.size + 1 + 1, 0, none⟩) (by simp; omega) _
      · gi_wp2_with (refine ⟨trivial, ?_⟩; gi_at_call 74; refine (CallsIn.inRound l (callsIn_wide.2 HN.out)).mono ?_; rintro e w1 ⟨rfl, hw⟩; rw [hw]; clear hw)
        exact HOn.out (by rw [HX.out]; simp [q])
    · gi_wp2
      refine ⟨trivial, ?_⟩
      gi_wp2
      exact HOn.out (by rw [HX.out]; simp)
  case done =>
    rintro D xs W hD hS ⟨hw, b3, b6, b7, hB⟩ hK
    have hm : G.least c k bs = none := least_none (fun i hi => by
      obtain ⟨b', e, hx⟩ := hS.2 i (by rw [← HK.out.2.2.2]; exact hi)
      have h2 := hw _ (List.mem_of_getElem? hx)
      rw [e] at h2
      exact h2)
    have HW := hid (And.intro b6 (And.intro b7 (And.intro hB (And.intro hK hD))))
    have c6 := b6.cell
    have f6 := b6.frozen
    have c7 := b7.cell
    have f7 := b7.frozen
    have c7' := (b7.other (B' := w.heap.size + 1) (by omega) (.int .i64 0)).cell
    have f7' := (b7.other (B' := w.heap.size + 1) (by omega) (.int .i64 0)).frozen
    rw [hm]
    clear b3 b6 b7 hB hK hw hS hD
    go_wp2_with fail
    have hK' := ((KeepsOthers.setCell W ⟨w.heap.size + 1, 0, none⟩ (.int .i64 0)).trans (KeepsOthers.setCell _ ⟨w.heap.size + 1 + 1, 0, none⟩ (.bool false))).same D _ HW.out.2.2.2.1 rfl
    refine ⟨by simp, .inl ⟨_, _, rfl, run_takeDeferred hK', ?_⟩⟩
    have d6 := cell_kept ((HW.out.1.set (.int .i64 0)).other (B' := w.heap.size + 1 + 1) (by omega) (.bool false)).cell (grownBy_putObj' _ D (.deferred none)) (fun r e => by cases e; exact ⟨_, hK', rfl⟩)
    have d7 := cell_kept ((HW.out.2.1.other (B' := w.heap.size + 1) (by omega) (.int .i64 0)).set (.bool false)).cell (grownBy_putObj' _ D (.deferred none)) (fun r e => by cases e; exact ⟨_, hK', rfl⟩)
    refine ⟨.tuple #[.int .i64 0, .bool false], by simp [results, Tryz.f72, go_sem, d6, d7], by rw [hm]; rfl, Touch.of_below ?_⟩
    exact ((HW.out.2.2.1.setCell (p := ⟨w.heap.size + 1, 0, none⟩) (by simp) _).setCell (p := ⟨w.heap.size + 1 + 1, 0, none⟩) (by simp; omega) _).trans (belowK_b (w := wN) h65 _ D _ _ HW.out.2.2.2.2 hK' rfl rfl)
  case stop =>
    rintro D cd pre W hD hSp ⟨rfl, p0, x, rfl, hx, hy, b6, b7, hB⟩ hK
    obtain ⟨j, hj, hU⟩ := hSp
    have hp : p0.length = j := by have := hU.1; simpa using this
    have hxj : x = fX k j (G.bit bs j) := by
      obtain ⟨b', e, hx'⟩ := hU.2 j (by omega)
      rw [List.getElem?_append_right (by omega), hp, Nat.sub_self] at hx'
      rw [← e]
      exact Option.some.inj hx'
    have hm : G.least c k bs = some j := least_at (by rw [HK.out.2.2.2]; exact hj) (by rw [hxj] at hx; exact hx) (fun i hi => by
      obtain ⟨b', e, hx'⟩ := hU.2 i (by omega)
      rw [List.getElem?_append_left (by omega)] at hx'
      have h2 := hy _ (List.mem_of_getElem? hx')
      rw [e] at h2
      exact h2)
    have hx1 : x.1 = 1920 * k + j := by rw [hxj]
    have HW := hid (And.intro b6 (And.intro b7 (And.intro hB (And.intro hK hD))))
    rw [hm]
    clear b6 b7 hB hK hD hx hy hU hxj hp
    refine (wpIn_wide (n := 9)).2 ?_
    go_wp2_with fail
    refine ⟨by simp, .inl ⟨_, _, rfl, run_takeDeferred HW.out.2.2.2.1, ?_⟩⟩
    have d6 := cell_kept HW.out.1.cell (grownBy_putObj' _ D (.deferred none)) (fun r e => by cases e; exact ⟨_, HW.out.2.2.2.1, rfl⟩)
    have d7 := cell_kept HW.out.2.1.cell (grownBy_putObj' _ D (.deferred none)) (fun r e => by cases e; exact ⟨_, HW.out.2.2.2.1, rfl⟩)
    refine ⟨.tuple #[.int .i64 (x.1 : Int), .bool true], by simp [results, Tryz.f72, go_sem, d6, d7], by rw [hx1]; rfl, Touch.of_below ?_⟩
    exact HW.out.2.2.1.trans (belowK_b (w := wN) h65 _ D _ _ HW.out.2.2.2.2 HW.out.2.2.2.1 rfl rfl)
end Go.Proofs.YtjlennpoaefllaaGreatDoor
